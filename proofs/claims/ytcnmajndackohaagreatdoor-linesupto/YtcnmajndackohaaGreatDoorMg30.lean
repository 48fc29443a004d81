import Derived.Test.YtcnmajndackohaaGreatDoorMg28
/-
  What the program's Other does.
-/
namespace Go.Proofs.YtcnmajndackohaaGreatDoor
open Go.RowKit
attribute [local go_sem ↓] Go.wp_at_zero Go.wp_at_succ
/-- One more of none. -/
theorem PM.otherOn {w w1 w2 : World} {P : Nat} {s : PS} {v' : Value} {p : Pk} (h : PM w P s) (hb : Below w.heap.size w w1) (hown : World.offRow w2 118 4 v' (s.O.length + 1) (hcells s.O ++ hcs p)) (hgrow : w1.grownBy w2 s.vo.ownBlock) (hat : ∀ g, v'.ownBlock = some g → s.vo.ownBlock = some g ∨ w.heap.size ≤ g) :
    Is w2 s.Q 116 s.cs ∧ PTo w P s (w2.setCell ⟨s.Q, 4, none⟩ v') { s with vo := v', O := s.O ++ [p], o := s.o.give w.heap.size w2.heap.size 5 } := by
  have hO1 : Only (fun i => s.o i = 5) w w2 := (Only.of_below hb).grown hgrow (fun k e _ => h.ot.2 k e)
  have hI : Is w2 s.Q 116 s.cs := h.inn.only hO1 (fun e => by rw [h.oQ] at e; cases e)
  have hO : Only (fun i => s.o i = 2 ∨ s.o i = 5) w (w2.setCell ⟨s.Q, 4, none⟩ v') := (hO1.mono fun i _ e => .inr e).setCell (.inl (.inl h.oQ))
  have hg : ∀ i, i < w.heap.size → (s.o.give w.heap.size w2.heap.size 5) i = s.o i := fun i hi => give_old hi
  have hsz : (w2.setCell ⟨s.Q, 4, none⟩ v').heap.size = w2.heap.size := by simp
  have hvQ : ∀ g, v'.ownBlock = some g → g ≠ s.Q := fun g hg' e => by
    rcases hat g hg' with k | k
    · have := h.ot.2 g k; rw [e, h.oQ] at this; cases this
    · have := h.inn.lt; omega
  refine ⟨hI, h.ownTo (c := 5) (.inr (.inr (.inl rfl))) hO hg ?_ rfl rfl rfl (hI.set 4 v') (h.rd.keep h.ord hO (fun i e => by omega)) (fun g hg' => (hg g (h.rd.lt g hg')).trans (h.ord g hg')) ?_ (h.be.keep hO (fun i e => by omega) hg) h.hp, hO.mono fun i _ e => by omega, hg, rfl⟩
  · have := give_free (c := 5) h.free hO1.size
    exact fun i hi => this i (by omega)
  · refine ⟨?_, fun g hg' => ?_⟩
    · show World.offRow _ _ 4 v' (s.O ++ [p]).length (hcells (s.O ++ [p]))
      rw [List.length_append, hcells_append]
      refine offRow_only (S := fun i => i = s.Q) ?_ (only_set _ _ _ _) (fun g hg' e => hvQ g hg' e)
      exact hown
    · rcases hat g hg' with k | k
      · exact (hg g (offRow_lt h.ot.1 g k)).trans (h.ot.2 g k)
      · exact give_new k (offRow_lt hown g hg')
set_option maxRecDepth 100000 in
set_option maxHeartbeats 4000000 in
theorem pother_bad (w : World) (P : Nat) (s : PS) (h : PM w P s) (size : Int) (hl : s.O.length ≤ 1000000000) (a : Nat → Addr) (a0 a1 b : Addr) (hg : GlA w a a0 a1)
    (hacc : ∀ W, GlA W a a0 a1 → Calls Tryz.prog 59 #[.int .i64 size, .int .i64 8, .int .i64 (s.O.length : Int)] W fun e w' => (∃ l, e = .returned (chn l b)) ∧ Below W.heap.size W w') :
    Calls Tryz.prog 40 #[.pointer (some ⟨s.Q, 0, none⟩), .int .i64 size] w fun e w' => (∃ l, e = .returned (chn l b)) ∧ Below w.heap.size w w' := by
  obtain ⟨ao, co, ho⟩ := h.otLen
  have c4 := h.c4
  rw [ho] at c4
  have HAc := hide (hacc w hg)
  have HX := hide (fun l W => in_chn { data := #[79, 116, 104, 101, 114] } l b W)
  have hll : (s.O.length : Int) ≤ 1000000000 := by omega
  clear h ho hg hacc
  go_enter Tryz.func40, Tryz.ntmps40
  go_wp2_with fail
  refine (unhide HAc).mono ?_
  rintro e w1 ⟨⟨l', rfl⟩, hb1⟩
  have HB1 := hide hb1
  obtain ⟨T, y, hy⟩ := chn_form l' b
  have HX1 := hide (unhide HX l' w1)
  rw [hy] at HX1 ⊢
  obtain ⟨E, HE⟩ : ∃ E, Hid (chn ({ data := #[79, 116, 104, 101, 114] } :: l') b = E) := ⟨_, hide rfl⟩
  rw [unhide HE] at HX1
  clear hb1 HAc HX hy
  go_wp2_with fail
  refine (unhide HX1).mono ?_
  rintro e w2 ⟨rfl, rfl⟩
  clear HX1
  go_wp2_with fail
  go_ret
  exact ⟨⟨_, ret_val (unhide HE).symm⟩, unhide HB1⟩
set_option maxRecDepth 100000 in
set_option maxHeartbeats 8000000 in
theorem pother_ok (w : World) (P : Nat) (s : PS) (h : PM w P s) (size : Int) (h1 : 1 ≤ size) (h2 : size ≤ 8) (h3 : (s.O.length : Int) < 40) (n0 : 0 ≤ s.now) (hb0 : 0 ≤ s.br) (hb1 : s.br ≤ 1000000000000) :
    Calls Tryz.prog 40 #[.pointer (some ⟨s.Q, 0, none⟩), .int .i64 size] w fun e w' => e = .returned .nilIface ∧ ∃ v' o', PTo w P s w' { s with vo := v', O := s.O ++ [⟨-1, s.br, size, s.now, -1, false, false⟩], br := s.br + 1, o := o' } := by
  obtain ⟨ao, co, ho⟩ := h.otLen
  have c4 := h.c4
  rw [ho] at c4
  have HAc := hide (fun W => accept_ok size 8 (s.O.length : Int) W h1 h2 h3)
  have HH := hide h
  have HV := hide ho
  obtain ⟨i0, hi0, hz0, hz1, hz2⟩ := info_five infoPkt
  have HI0 := hide hi0
  have HZ0 := hide hz0
  have HZ1 := hide hz1
  have HZ2 := hide hz2
  have c0 := h.c0
  have c5 := h.c5
  have hQ := h.inn.lt
  have c4A := fun ob => (World.cell?_alloc_past (w := w) ob s.Q 4 hQ).trans c4
  have HSB := hide (show ∀ w', Below w.heap.size w w' → w'.cell? ⟨s.Q, 5, none⟩ = some (.int .i64 s.br) ∧ w'.cell? ⟨s.Q, 0, none⟩ = some (.int .i64 s.now) from fun w' hb => ⟨(h.below hb).c5, (h.below hb).c0⟩)
  have hrd : toTick s.now = s.now := toTick_of n0
  have HRd := hide hrd
  clear h ho hi0 hz0 hz1 hz2 hrd
  go_enter Tryz.func40, Tryz.ntmps40
  go_wp2_with fail
  refine (unhide HAc _).mono ?_
  rintro e w1 ⟨rfl, rfl⟩
  clear HAc
  go_wp2_with fail
  refine wp_region_held_drew (S := (fun w' : World => w'.cell? ⟨s.Q, 5, none⟩ = some (.int .i64 s.br) ∧ w'.cell? ⟨s.Q, 0, none⟩ = some (.int .i64 s.now))) (by kernel_rfl) (unhide HSB _ (Below.refl _ _).drew) (fun hHeld => ?_)
  refine wpAnyH_take (i := 0) (v := ?_) rfl (by kernel_rfl) (by kernel_rfl) (by kernel_rfl) (fun _ _ _ h => h) (Or.inl ⟨by rfl, ?_⟩) (by assumption) ?_
  rotate_left
  · intro w hSw; (try dsimp only at hSw); go_simp; (try rfl)
  (try go_frame)
  refine wpAnyH_take (i := 1) (v := ?_) rfl (by kernel_rfl) (by kernel_rfl) (by kernel_rfl) (fun _ _ _ h => h) (Or.inl ⟨by rfl, ?_⟩) (by assumption) ?_
  rotate_left
  · intro w hSw; (try dsimp only at hSw); go_simp; (try rfl)
  (try go_frame)
  refine wpAnyH_take (i := 2) (v := ?_) rfl (by kernel_rfl) (by kernel_rfl) (by kernel_rfl) (fun _ _ _ h => h) (Or.inl ⟨by rfl, ?_⟩) (by assumption) ?_
  rotate_left
  · intro w hSw; (try dsimp only at hSw); go_simp; (try rfl)
  (try go_frame)
  refine wpAnyH_take (i := 3) (v := ?_) rfl (by kernel_rfl) (by kernel_rfl) (by kernel_rfl) (fun _ _ _ h => h) (Or.inl ⟨by rfl, ?_⟩) (by assumption) ?_
  rotate_left
  · intro w hSw; (try dsimp only at hSw); go_simp; (try rfl)
  (try go_frame)
  refine wpAnyH_take (i := 5) (v := ?_) rfl (by kernel_rfl) (by kernel_rfl) (by kernel_rfl) (fun _ _ _ h => h) (Or.inl ⟨by rfl, ?_⟩) (by assumption) ?_
  rotate_left
  · intro w hSw; (try dsimp only at hSw); go_simp; (try rfl)
  (try go_frame)
  refine wpAnyH_take (i := 6) (v := ?_) rfl (by kernel_rfl) (by kernel_rfl) (by kernel_rfl) (fun _ _ _ h => h) (Or.inl ⟨by rfl, ?_⟩) (by assumption) ?_
  rotate_left
  · intro w hSw; (try dsimp only at hSw); go_simp; (try rfl)
  (try go_frame)
  refine wpAnyH_take (i := 7) (v := ?_) rfl (by kernel_rfl) (by kernel_rfl) (by kernel_rfl) (fun _ _ _ h => h) (Or.inl ⟨by rfl, ?_⟩) (by assumption) ?_
  rotate_left
  · intro w hSw; (try dsimp only at hSw); go_simp; (try rfl)
  (try go_frame)
  refine wpAnyH_take (i := 8) (v := ?_) rfl (by kernel_rfl) (by kernel_rfl) (by kernel_rfl) (fun _ _ _ h => h) (Or.inl ⟨by rfl, ?_⟩) (by assumption) ?_
  rotate_left
  · intro w hSw; (try dsimp only at hSw); go_simp; (try rfl)
  (try go_frame)
  refine wpAnyH_take (i := 9) (v := ?_) rfl (by kernel_rfl) (by kernel_rfl) (by kernel_rfl) (fun _ _ _ h => h) (Or.inl ⟨by rfl, ?_⟩) (by assumption) ?_
  rotate_left
  · intro w hSw; (try dsimp only at hSw); go_simp; (try rfl)
  (try go_frame)
  refine wpAnyH_take (i := 10) (v := ?_) rfl (by kernel_rfl) (by kernel_rfl) (by kernel_rfl) (fun _ _ _ h => h) (Or.inl ⟨by rfl, ?_⟩) (by assumption) ?_
  rotate_left
  · intro w hSw; (try dsimp only at hSw); go_simp; (try rfl)
  (try go_frame)
  refine wpAnyH_take (i := 11) (v := ?_) rfl (by kernel_rfl) (by kernel_rfl) (by kernel_rfl) (fun _ _ _ h => h) (Or.inl ⟨by rfl, ?_⟩) (by assumption) ?_
  rotate_left
  · intro w hSw; (try dsimp only at hSw); go_simp; (try rfl)
  (try go_frame)
  refine wpAnyH_take (i := 12) (v := ?_) rfl (by kernel_rfl) (by kernel_rfl) (by kernel_rfl) (fun _ _ _ h => h) (Or.inl ⟨by rfl, ?_⟩) (by assumption) ?_
  rotate_left
  · intro w hSw; (try dsimp only at hSw); go_simp; (try rfl)
  (try go_frame)
  refine wpAnyH_take (i := 13) (v := ?_) rfl (by kernel_rfl) (by kernel_rfl) (by kernel_rfl) (fun _ _ _ h => h) (Or.inl ⟨by rfl, ?_⟩) (by assumption) ?_
  rotate_left
  · intro w hSw; (try dsimp only at hSw); go_simp; (try rfl)
  (try go_frame)
  refine wpAnyH_take (i := 14) (v := ?_) rfl (by kernel_rfl) (by kernel_rfl) (by kernel_rfl) (fun _ _ _ h => h) (Or.inl ⟨by rfl, ?_⟩) (by assumption) ?_
  rotate_left
  · intro w hSw; (try dsimp only at hSw); go_simp; (try rfl)
  (try go_frame)
  refine wpAnyH_ready (rs := [4, 15]) (by kernel_rfl) (by simp) (AllReadyH.cons rfl (fun K hK => ?_) (AllReadyH.cons rfl (fun K hK => ?_) AllReadyH.nil))
  · go_simp
    refine hK.out _ _ (unhide HSB _ ((Below.refl _ _).drew)) (fun hHeld => ?_)
    clear hK K
    (try go_frame)
    refine wpAnyH_ready (rs := [15]) (by kernel_rfl) (by simp) (AllReadyH.cons rfl (fun K hK => ?_) AllReadyH.nil)
    go_simp
    refine hK.out _ _ (unhide HSB _ ((bel_one _).drew)) (fun hHeld => ?_)
    clear hK K
    (try go_frame)
    refine wpAnyH_ready (rs := [16]) (by kernel_rfl) (by simp) (AllReadyH.cons rfl (fun K hK => ?_) AllReadyH.nil)
    refine step_append_off _ rfl (.tmp 21) (.tmp 32) 114 rfl 118 i0 _ 4 32 Tryz.underlying114 (unhide HI0) (unhide HZ0) (unhide HZ1) (unhide HZ2) rfl (by omega) (.slice ao s.O.length co) s.O.length (hcells s.O) (by rfl) (offRow_bel (by have := (unhide HH).ot.1; rw [← unhide HV]; exact this) (bel_one _).drew) ⟨w1.heap.size, 0, none⟩ 1 1 [.int .i64 (-1), .int .i64 s.br, .int .i64 size, .int .i64 s.now] (by rfl) (by rfl) (World.news_of_block (cs := #[.int .i64 (-1), .int .i64 s.br, .int .i64 size, .int .i64 s.now]) (t := 118) (fr := (0, 0)) (heap_alloc_new w1 _)) (by simp [Value.oneCell']) (by unfold maxLen; omega) (by omega) ?_
    intro a' c' w3 hown hgrow hat
    have hX := (unhide HH).otherOn (p := ⟨-1, s.br, size, s.now, -1, false, false⟩) ((bel_one _).drew) (by unfold hcs; rw [unhide HRd]; exact hown) (by rw [← unhide HV] at hgrow; exact hgrow) (fun g' hg' => by rw [← unhide HV] at hat; exact (hat g' hg').imp id (fun e => by have e' : (w1.alloc _).heap.size ≤ g' := e; rw [World.size_alloc] at e'; omega))
    have e4 := hX.1.cell (j := 4) rfl
    have z4 := hX.1.frozen 4
    have hS3 : w3.cell? ⟨s.Q, 5, none⟩ = some (.int .i64 s.br) ∧ w3.cell? ⟨s.Q, 0, none⟩ = some (.int .i64 s.now) := ⟨hX.1.cell (j := 5) rfl, hX.1.cell (j := 0) rfl⟩
    have HX := hide hX.2
    have HS4 := hide (show (w3.setCell ⟨s.Q, 4, none⟩ (.slice a' (s.O.length + 1) c')).cell? ⟨s.Q, 5, none⟩ = some (.int .i64 s.br) ∧ (w3.setCell ⟨s.Q, 4, none⟩ (.slice a' (s.O.length + 1) c')).cell? ⟨s.Q, 0, none⟩ = some (.int .i64 s.now) from ⟨hX.2.pm.c5, hX.2.pm.c0⟩)
    refine hK.out _ _ hS3 (fun hHeld => ?_)
    clear hK K hX hown hgrow hat hS3
    (try go_frame)
    refine wpAnyH_take (i := 17) (v := ?_) rfl (by kernel_rfl) (by kernel_rfl) (by kernel_rfl) (fun _ _ _ h => h) (Or.inl ⟨by rfl, ?_⟩) (by assumption) ?_
    rotate_left
    · intro w hSw; (try dsimp only at hSw); go_simp; (try rfl)
    (try go_frame)
    refine wpAnyH_take (i := 18) (v := ?_) rfl (by kernel_rfl) (by kernel_rfl) (by kernel_rfl) (fun _ _ _ h => h) (Or.inl ⟨by rfl, ?_⟩) (by assumption) ?_
    rotate_left
    · intro w hSw; (try dsimp only at hSw); go_simp; (try rfl)
    (try go_frame)
    refine wpAnyH_ready (rs := [19]) (by kernel_rfl) (by simp) (AllReadyH.cons rfl (fun K hK => ?_) AllReadyH.nil)
    go_simp
    refine hK.out _ _ (unhide HS4) (fun hHeld => ?_)
    clear hK K
    refine wpAnyH_done (by kernel_rfl) ?_ _
    clear hHeld e4 z4
    have b5 := (unhide HS4).1
    have z5 := (unhide HX).pm.inn.frozen 5
    have HT6 := hide ((unhide HX).trans ((unhide HX).pm.setQ (s' := { s with vo := .slice a' (s.O.length + 1) c', O := s.O ++ [⟨-1, s.br, size, s.now, -1, false, false⟩], br := s.br + 1, o := s.o.give w1.heap.size w3.heap.size 5 }) 5 (.int .i64 (s.br + 1)) rfl rfl rfl rfl rfl (unhide HX).pm.rd (unhide HX).pm.ord (unhide HX).pm.ot (unhide HX).pm.be (unhide HX).pm.hp))
    clear HX HS4 HSB c0 c5 c4 c4A
    generalize (w3.setCell ⟨s.Q, 4, none⟩ (.slice a' (s.O.length + 1) c')) = W4 at *
    have hw12 : IntKind.i64.wrap (s.br + 1) = s.br + 1 := by go_arith
    go_wp2_with fail
    go_ret
    exact ⟨rfl, _, _, unhide HT6⟩
  · go_simp
    refine hK.out _ _ (unhide HSB _ ((bel_one _).drew)) (fun hHeld => ?_)
    clear hK K
    (try go_frame)
    refine wpAnyH_ready (rs := [4]) (by kernel_rfl) (by simp) (AllReadyH.cons rfl (fun K hK => ?_) AllReadyH.nil)
    go_simp
    refine hK.out _ _ (unhide HSB _ ((bel_one _).drew)) (fun hHeld => ?_)
    clear hK K
    (try go_frame)
    refine wpAnyH_ready (rs := [16]) (by kernel_rfl) (by simp) (AllReadyH.cons rfl (fun K hK => ?_) AllReadyH.nil)
    refine step_append_off _ rfl (.tmp 21) (.tmp 32) 114 rfl 118 i0 _ 4 32 Tryz.underlying114 (unhide HI0) (unhide HZ0) (unhide HZ1) (unhide HZ2) rfl (by omega) (.slice ao s.O.length co) s.O.length (hcells s.O) (by rfl) (offRow_bel (by have := (unhide HH).ot.1; rw [← unhide HV]; exact this) (bel_one _).drew) ⟨w1.heap.size, 0, none⟩ 1 1 [.int .i64 (-1), .int .i64 s.br, .int .i64 size, .int .i64 s.now] (by rfl) (by rfl) (World.news_of_block (cs := #[.int .i64 (-1), .int .i64 s.br, .int .i64 size, .int .i64 s.now]) (t := 118) (fr := (0, 0)) (heap_alloc_new w1 _)) (by simp [Value.oneCell']) (by unfold maxLen; omega) (by omega) ?_
    intro a' c' w3 hown hgrow hat
    have hX := (unhide HH).otherOn (p := ⟨-1, s.br, size, s.now, -1, false, false⟩) ((bel_one _).drew) (by unfold hcs; rw [unhide HRd]; exact hown) (by rw [← unhide HV] at hgrow; exact hgrow) (fun g' hg' => by rw [← unhide HV] at hat; exact (hat g' hg').imp id (fun e => by have e' : (w1.alloc _).heap.size ≤ g' := e; rw [World.size_alloc] at e'; omega))
    have e4 := hX.1.cell (j := 4) rfl
    have z4 := hX.1.frozen 4
    have hS3 : w3.cell? ⟨s.Q, 5, none⟩ = some (.int .i64 s.br) ∧ w3.cell? ⟨s.Q, 0, none⟩ = some (.int .i64 s.now) := ⟨hX.1.cell (j := 5) rfl, hX.1.cell (j := 0) rfl⟩
    have HX := hide hX.2
    have HS4 := hide (show (w3.setCell ⟨s.Q, 4, none⟩ (.slice a' (s.O.length + 1) c')).cell? ⟨s.Q, 5, none⟩ = some (.int .i64 s.br) ∧ (w3.setCell ⟨s.Q, 4, none⟩ (.slice a' (s.O.length + 1) c')).cell? ⟨s.Q, 0, none⟩ = some (.int .i64 s.now) from ⟨hX.2.pm.c5, hX.2.pm.c0⟩)
    refine hK.out _ _ hS3 (fun hHeld => ?_)
    clear hK K hX hown hgrow hat hS3
    (try go_frame)
    refine wpAnyH_take (i := 17) (v := ?_) rfl (by kernel_rfl) (by kernel_rfl) (by kernel_rfl) (fun _ _ _ h => h) (Or.inl ⟨by rfl, ?_⟩) (by assumption) ?_
    rotate_left
    · intro w hSw; (try dsimp only at hSw); go_simp; (try rfl)
    (try go_frame)
    refine wpAnyH_take (i := 18) (v := ?_) rfl (by kernel_rfl) (by kernel_rfl) (by kernel_rfl) (fun _ _ _ h => h) (Or.inl ⟨by rfl, ?_⟩) (by assumption) ?_
    rotate_left
    · intro w hSw; (try dsimp only at hSw); go_simp; (try rfl)
    (try go_frame)
    refine wpAnyH_ready (rs := [19]) (by kernel_rfl) (by simp) (AllReadyH.cons rfl (fun K hK => ?_) AllReadyH.nil)
    go_simp
    refine hK.out _ _ (unhide HS4) (fun hHeld => ?_)
    clear hK K
    refine wpAnyH_done (by kernel_rfl) ?_ _
    clear hHeld e4 z4
    have b5 := (unhide HS4).1
    have z5 := (unhide HX).pm.inn.frozen 5
    have HT6 := hide ((unhide HX).trans ((unhide HX).pm.setQ (s' := { s with vo := .slice a' (s.O.length + 1) c', O := s.O ++ [⟨-1, s.br, size, s.now, -1, false, false⟩], br := s.br + 1, o := s.o.give w1.heap.size w3.heap.size 5 }) 5 (.int .i64 (s.br + 1)) rfl rfl rfl rfl rfl (unhide HX).pm.rd (unhide HX).pm.ord (unhide HX).pm.ot (unhide HX).pm.be (unhide HX).pm.hp))
    clear HX HS4 HSB c0 c5 c4 c4A
    generalize (w3.setCell ⟨s.Q, 4, none⟩ (.slice a' (s.O.length + 1) c')) = W4 at *
    have hw12 : IntKind.i64.wrap (s.br + 1) = s.br + 1 := by go_arith
    go_wp2_with fail
    go_ret
    exact ⟨rfl, _, _, unhide HT6⟩
end Go.Proofs.YtcnmajndackohaaGreatDoor
