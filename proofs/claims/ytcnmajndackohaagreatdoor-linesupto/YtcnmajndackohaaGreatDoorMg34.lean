import Derived.Test.YtcnmajndackohaaGreatDoorMg33
/-
  What the program's NewGate and add do.
-/
namespace Go.Proofs.YtcnmajndackohaaGreatDoor
open Go.RowKit
attribute [local go_sem ↓] Go.wp_at_zero Go.wp_at_succ
abbrev flV (f : Fl) : Value := .agg #[.int .i64 f.s, .int .i64 f.p, .int .i64 f.b, .int .i64 f.r, .int .i64 f.d]
abbrev gtCs (g : Gt) : Array Value := #[.int .i64 g.peak.level, .int .i64 g.peak.most, .int .i64 g.peak.rate, .int .i64 g.burst.level, .int .i64 g.burst.most, .int .i64 g.burst.rate, .int .i64 g.last]
theorem res_cell1 {P : Program} {fn : Func} {p : Tmp} {ty : TypeId} (h : fn.results = #[.cell p ty]) (tmps : Array Value) (w : World) (g : Nat) (t : TypeId) (cs : Array Value) (fr : Nat × Nat) (d : TypeDesc)
    (hp : tmps.getD p undef = .pointer (some ⟨g, 0, none⟩)) (hg : w.heap[g]? = some (.cells cs t fr)) (hu : P.underlying ty = some d) (hd : (match d with | .struct _ | .array _ _ => true | _ => false) = true) (hi : (P.info? ty).map (·.size) = some cs.size) :
    (results fn tmps).run P w = .ok (.agg cs) w := by
  have e : tmps[p]?.getD undef = .pointer (some ⟨g, 0, none⟩) := by rw [← hp]; exact (Array.getD_eq_getD_getElem? ..).symm
  simp [results, h, e, asAddr, run_loadVar_row w g t ty cs fr d hg hu hd hi]
theorem infoGate : (Tryz.prog.info? 128).map (·.size) = some 7 := by kernel_rfl
set_option maxRecDepth 100000 in
set_option maxHeartbeats 2000000 in
theorem newgate_any (f : Fl) (hf : f.may) (w : World) :
    Calls Tryz.prog 112 #[flV f] w fun e w' => e = .returned (.agg (gtCs (Gt.new f))) ∧ Below w.heap.size w w' := by
  obtain ⟨s0, s1, b0, b1, r0, p0, p1, d0, d1⟩ := hf
  have w1 : IntKind.i64.wrap (f.s * 12) = f.s * 12 := by go_arith
  have w2 : IntKind.i64.wrap (f.b * 12) = f.b * 12 := by go_arith
  have HE := hide (show gtCs (Gt.new f) = #[.int .i64 (f.s * 12), .int .i64 (f.s * 12), .int .i64 f.p, .int .i64 (f.b * 12), .int .i64 (f.b * 12), .int .i64 f.r, .int .i64 0] by
    unfold gtCs Gt.new
    rw [Int.mul_comm 12 f.s, Int.mul_comm 12 f.b])
  generalize gtCs (Gt.new f) = G at *
  go_enter Tryz.func112, Tryz.ntmps112
  go_wp2_with fail
  refine bodyPost_ret (res_cell1 rfl _ _ (w.heap.size + 1) 128 _ (0, 0) _ rfl (is_new2 w _ _ _) Tryz.underlying128 rfl infoGate) rfl ?_
  exact ⟨by rw [unhide HE], bel_then (bel_one _) (bel_one _)⟩
/-- 'm[k] = &..' at a step of a region that draws. -/
theorem step_store_F (w : World) {M : Nat} {m : Nat → Option Nat} {ops : Array Oper} {o : Oper} {a : Act} {K : Act → World → Prop} {Q : Exit → Act → World → Prop} {E : Prop} (hgd : o.guard = none) (mo x v : Operand) (hop : o.op = Op.mapUpdate 111 mo x v)
    (hm : a.eval mo = .map (some M)) (h : MapF w M m) {N : Nat} (hN : ∀ k, N ≤ k → m k = none) (hl : N ≤ 1000000000000) (k b : Nat) (hk1 : (k : Int) ≤ 9223372036854775807) (hx : a.eval x = .int .i64 (k : Int)) (hv : a.eval v = .pointer (some ⟨b, 0, none⟩))
    (hK : ∀ w', MapF w' M (fun j => if j = k then some b else m j) → Only (fun i => i = M) w w' → K (a.put o.dst undef) w') :
    if Region.wanted o (yielded ops a.tmps) = true then Oper.wp Tryz.prog o a w K Q else E := by
  have hw : Region.wanted o (yielded ops a.tmps) = true := by simp [Region.wanted, hgd]
  rw [if_pos hw]
  obtain ⟨w', hr, h1, h2⟩ := h.store hN hl k b hk1
  unfold Oper.wp
  simp [execOp, hop, hm, hx, hv, hr, Result.andThen]
  exact hK w' h1 h2
/-- A flow of a new number. -/
theorem PM.added {w w2 : World} {P : Nat} {s : PS} {k : Nat} {f : FS} (h : PM w P s) (hO : Only (fun i => i = s.M) w w2) (hI : Is w2 f.a 130 f.cs) (ha : w.heap.size ≤ f.a) (hvh : f.vh = .slice none 0 0) (hL : f.L = []) (hM : MapF w2 s.M (adrs (upd s.fs k f))) :
    PTo w P s w2 { s with fs := upd s.fs k f, o := s.o.give f.a (f.a + 1) (7 + 2 * k) } := by
  have hg : ∀ i, i < w.heap.size → (s.o.give f.a (f.a + 1) (7 + 2 * k)) i = s.o i := fun i hi => give_old (by omega)
  have hn := h.toPN.keepM hO (fun i e => .inr (by rw [e]; exact h.oM))
  have hfree : (s.o.give f.a (f.a + 1) (7 + 2 * k)).free w2 := fun i hi => by
    have := hI.lt
    unfold Whose.give
    rw [if_neg (by omega)]
    exact h.free i (Nat.le_trans hO.size hi)
  refine ⟨⟨⟨hfree, hn.inn, (hg _ h.inn.lt).trans h.oQ, (hg _ h.map.lt).trans h.oM, hn.rd, fun g hg' => (hg g (h.rd.lt g hg')).trans (h.ord g hg'), ⟨hn.ot.1, fun g hg' => (hg g (offRow_lt h.ot.1 g hg')).trans (h.ot.2 g hg')⟩, ⟨hn.be.1, fun g hg' => (hg g (ownsRow_lt h.be.1 g hg').2).trans (h.be.2 g hg')⟩, ?_, h.hp⟩, hM⟩, hO.mono fun i _ e => by rw [e, h.oM]; decide, hg, rfl⟩
  intro j fj hj
  have hj' : upd s.fs k f j = some fj := hj
  by_cases e : j = k
  · subst e
    rw [upd_same] at hj'
    obtain rfl := Option.some.inj hj'
    refine ⟨hI, give_new (Nat.le_refl _) (by omega), ?_, ?_⟩
    · rw [hvh, hL]; exact off_nil _ _ _
    · intro g hg'; rw [hvh] at hg'; cases hg'
  · rw [upd_far _ _ e] at hj'
    have hfm := hn.fl j fj hj'
    have hfo := h.fl j fj hj'
    exact ⟨hfm.blk, (hg _ hfo.blk.lt).trans hfo.ob, hfm.hl.1, fun g hg' => (hg g (offRow_lt hfo.hl.1 g hg')).trans (hfo.hl.2 g hg')⟩
theorem adrs_added {fs : Nat → Option FS} {k : Nat} (f : FS) : (fun j => if j = k then some f.a else adrs fs j) = adrs (upd fs k f) := by
  funext j
  unfold adrs upd
  by_cases e : j = k
  · rw [if_pos e, if_pos e]; rfl
  · rw [if_neg e, if_neg e]
/-- A flow that is new. -/
def FS.fresh (a : Nat) (f : Fl) : FS := ⟨a, f, Gt.new f, 0, 0, .slice none 0 0, [], false⟩
set_option maxRecDepth 100000 in
set_option maxHeartbeats 8000000 in
theorem padd (w : World) (P : Nat) (s : PS) (h : PM w P s) (f : Fl) (hf : f.may) (hN : ∀ k, s.num ≤ k → s.fs k = none) (hl : s.num ≤ 100000000000) :
    Calls Tryz.prog 84 #[.pointer (some ⟨s.Q, 0, none⟩), flV f] w fun e w' => e = .returned (.int .i64 (s.num : Int)) ∧ ∃ a o', PTo w P s w' { s with fs := upd s.fs s.num (FS.fresh a f), num := s.num + 1, o := o' } := by
  have c2 := h.c2
  have HH := hide h
  have hQ := h.inn.lt
  have c2A := fun ob => (World.cell?_alloc_past (w := w) ob s.Q 2 hQ).trans c2
  have HNG := hide (fun W => newgate_any f hf W)
  have HHA := hide (h.below (bel_one (.cells #[.int .i64 f.s, .int .i64 f.p, .int .i64 f.b, .int .i64 f.r, .int .i64 f.d] 35)))
  have HNw := hide (Is.new w 35 #[.int .i64 f.s, .int .i64 f.p, .int .i64 f.b, .int .i64 f.r, .int .i64 f.d])
  have HN := hide hN
  have hnl : (s.num : Int) ≤ 100000000000 := by omega
  clear h hN hf
  unfold flV
  unfold flV at HNG
  go_enter Tryz.func84, Tryz.ntmps84
  go_wp2_with fail
  have HSB := hide (show ∀ w', Below (w.alloc (.cells #[.int .i64 f.s, .int .i64 f.p, .int .i64 f.b, .int .i64 f.r, .int .i64 f.d] 35)).heap.size (w.alloc (.cells #[.int .i64 f.s, .int .i64 f.p, .int .i64 f.b, .int .i64 f.r, .int .i64 f.d] 35)) w' → w'.cell? ⟨s.Q, 1, none⟩ = some (.map (some s.M)) ∧ w'.cell? ⟨w.heap.size, 0, none⟩ = some (.int .i64 f.s) ∧ w'.cell? ⟨w.heap.size, 1, none⟩ = some (.int .i64 f.p) ∧ w'.cell? ⟨w.heap.size, 2, none⟩ = some (.int .i64 f.b) ∧ w'.cell? ⟨w.heap.size, 3, none⟩ = some (.int .i64 f.r) ∧ w'.cell? ⟨w.heap.size, 4, none⟩ = some (.int .i64 f.d) from fun w' hb => by
    have hN := (unhide HNw).below hb
    exact ⟨((unhide HHA).below hb).c1, hN.cell (j := 0) rfl, hN.cell (j := 1) rfl, hN.cell (j := 2) rfl, hN.cell (j := 3) rfl, hN.cell (j := 4) rfl⟩)
  refine wp_region_held_drew (S := (fun w' : World => w'.cell? ⟨s.Q, 1, none⟩ = some (.map (some s.M)) ∧ w'.cell? ⟨w.heap.size, 0, none⟩ = some (.int .i64 f.s) ∧ w'.cell? ⟨w.heap.size, 1, none⟩ = some (.int .i64 f.p) ∧ w'.cell? ⟨w.heap.size, 2, none⟩ = some (.int .i64 f.b) ∧ w'.cell? ⟨w.heap.size, 3, none⟩ = some (.int .i64 f.r) ∧ w'.cell? ⟨w.heap.size, 4, none⟩ = some (.int .i64 f.d))) (by kernel_rfl) (unhide HSB _ (Below.refl _ _).drew) (fun hHeld => ?_)
  refine wpAnyH_take (i := 0) (v := ?_) rfl (by kernel_rfl) (by kernel_rfl) (by kernel_rfl) (fun _ _ _ h => h) (Or.inl ⟨by rfl, ?_⟩) (by assumption) ?_
  rotate_left
  · intro w hSw; (try dsimp only at hSw); go_simp; (try rfl)
  (try go_frame)
  refine wpAnyH_take (i := 1) (v := ?_) rfl (by kernel_rfl) (by kernel_rfl) (by kernel_rfl) (fun _ _ _ h => h) (Or.inl ⟨by rfl, ?_⟩) (by assumption) ?_
  rotate_left
  · intro w hSw; (try dsimp only at hSw); go_simp; (try rfl)
  (try go_frame)
  refine wpAnyH_take (i := 2) (v := ?_) rfl (by kernel_rfl) (by kernel_rfl) (by kernel_rfl) (fun _ _ _ h => h) (Or.inl ⟨by rfl, ?_⟩) (by assumption) ?_
  rotate_left
  · intro w hSw; (try dsimp only at hSw); go_simp; (try rfl)
  (try go_frame)
  refine wpAnyH_take (i := 3) (v := ?_) rfl (by kernel_rfl) (by kernel_rfl) (by kernel_rfl) (fun _ _ _ h => h) (Or.inl ⟨by rfl, ?_⟩) (by assumption) ?_
  rotate_left
  · intro w hSw; (try dsimp only at hSw); go_simp; (try rfl)
  (try go_frame)
  refine wpAnyH_take (i := 4) (v := ?_) rfl (by kernel_rfl) (by kernel_rfl) (by kernel_rfl) (fun _ _ _ h => h) (Or.inl ⟨by rfl, ?_⟩) (by assumption) ?_
  rotate_left
  · intro w hSw; (try dsimp only at hSw); go_simp; (try rfl)
  (try go_frame)
  refine wpAnyH_take (i := 5) (v := ?_) rfl (by kernel_rfl) (by kernel_rfl) (by kernel_rfl) (fun _ _ _ h => h) (Or.inl ⟨by rfl, ?_⟩) (by assumption) ?_
  rotate_left
  · intro w hSw; (try dsimp only at hSw); go_simp; (try rfl)
  (try go_frame)
  refine wpAnyH_take (i := 6) (v := ?_) rfl (by kernel_rfl) (by kernel_rfl) (by kernel_rfl) (fun _ _ _ h => h) (Or.inl ⟨by rfl, ?_⟩) (by assumption) ?_
  rotate_left
  · intro w hSw; (try dsimp only at hSw); go_simp; (try rfl)
  (try go_frame)
  refine wpAnyH_ready (rs := [7]) (by kernel_rfl) (by simp) (AllReadyH.cons rfl (fun K hK => ?_) AllReadyH.nil)
  go_simp
  refine (unhide HNG _).mono ?_
  rintro e w1 ⟨rfl, hb1⟩
  have HB1 := hide (show Below _ (w.alloc (.cells #[.int .i64 f.s, .int .i64 f.p, .int .i64 f.b, .int .i64 f.r, .int .i64 f.d] 35)) w1 from (Below.refl _ _).drew.trans hb1)
  clear hb1
  go_simp
  refine hK.out _ _ (unhide HSB _ (unhide HB1)) (fun hHeld => ?_)
  clear hK K
  (try go_frame)
  refine wpAnyH_take (i := 8) (v := ?_) rfl (by kernel_rfl) (by kernel_rfl) (by kernel_rfl) (fun _ _ _ h => h) (Or.inl ⟨by rfl, ?_⟩) (by assumption) ?_
  rotate_left
  · intro w hSw; (try dsimp only at hSw); go_simp; (try rfl)
  (try go_frame)
  refine wpAnyH_ready (rs := [9]) (by kernel_rfl) (by simp) (AllReadyH.cons rfl (fun K hK => ?_) AllReadyH.nil)
  go_simp
  refine hK.out _ _ (unhide HSB _ (bel_then (unhide HB1) (bel_one _))) (fun hHeld => ?_)
  clear hK K
  (try go_frame)
  refine wpAnyH_ready (rs := [10]) (by kernel_rfl) (by simp) (AllReadyH.cons rfl (fun K hK => ?_) AllReadyH.nil)
  have hP1 := (unhide HHA).below (unhide HB1)
  have hbw : Below w.heap.size w w1 := bel_then (bel_one _) (unhide HB1)
  refine step_store_F _ rfl (.tmp 13) (.tmp 14) (.tmp 19) rfl (by rfl) (hP1.map.below (bel_one _)) (N := s.num) (fun k hk => by unfold adrs; rw [unhide HN k hk]; rfl) (by omega) s.num w1.heap.size (by omega) (by rfl) (by rfl) ?_
  intro w2 hM2 hO2
  have hI2 : Is w2 w1.heap.size 130 (FS.fresh w1.heap.size f).cs := Is.only (show Is (w1.alloc _) w1.heap.size 130 _ from Is.new w1 _ _) hO2 (fun e => by
    have := hP1.map.lt
    omega)
  have hT := (unhide HH).added (w2 := w2) (k := s.num) (f := FS.fresh w1.heap.size f) ((Only.of_below (bel_then hbw (bel_one _))).trans hO2 (fun _ _ h => h)) hI2 hbw.size rfl rfl (by rw [← adrs_added]; exact hM2)
  have HT := hide hT
  have hSS : w2.cell? ⟨s.Q, 1, none⟩ = some (.map (some s.M)) ∧ w2.cell? ⟨w.heap.size, 0, none⟩ = some (.int .i64 f.s) ∧ w2.cell? ⟨w.heap.size, 1, none⟩ = some (.int .i64 f.p) ∧ w2.cell? ⟨w.heap.size, 2, none⟩ = some (.int .i64 f.b) ∧ w2.cell? ⟨w.heap.size, 3, none⟩ = some (.int .i64 f.r) ∧ w2.cell? ⟨w.heap.size, 4, none⟩ = some (.int .i64 f.d) := by
    have hN2 := ((unhide HNw).below (bel_then (unhide HB1) (bel_one _))).only hO2 (fun e => by have := (unhide HH).map.lt; omega)
    exact ⟨hT.pm.c1, hN2.cell (j := 0) rfl, hN2.cell (j := 1) rfl, hN2.cell (j := 2) rfl, hN2.cell (j := 3) rfl, hN2.cell (j := 4) rfl⟩
  refine hK.out _ _ hSS (fun hHeld => ?_)
  clear hK K hSS hI2 hM2 hO2 hP1 hbw
  refine wpAnyH_done (by kernel_rfl) ?_ _
  clear hHeld HSB HNG
  have d2 := (unhide HT).pm.c2
  have z2 := (unhide HT).pm.inn.frozen 2
  have HT2 := hide ((unhide HT).trans ((unhide HT).pm.setQ (s' := { s with fs := upd s.fs s.num (FS.fresh w1.heap.size f), num := s.num + 1, o := s.o.give w1.heap.size (w1.heap.size + 1) (7 + 2 * s.num) }) 2 (.int .i64 ((s.num : Int) + 1)) rfl rfl rfl rfl rfl (unhide HT).pm.rd (unhide HT).pm.ord (unhide HT).pm.ot (unhide HT).pm.be (unhide HT).pm.hp))
  clear HT HHA HNw c2A
  have hwr : IntKind.i64.wrap ((s.num : Int) + 1) = (s.num : Int) + 1 := by go_arith
  go_wp2_with fail
  go_ret
  exact ⟨rfl, _, _, unhide HT2⟩
end Go.Proofs.YtcnmajndackohaaGreatDoor
