import Derived.Test.YtcnmajndackohaaGreatDoorMg25
/-
  What the program's Send does where it takes a packet.
-/
namespace Go.Proofs.YtcnmajndackohaaGreatDoor
open Go.RowKit
attribute [local go_sem ↓] Go.wp_at_zero Go.wp_at_succ
theorem offRow_bel {w w' : World} {t : TypeId} {size n : Nat} {v : Value} {xs : List Value} (h : World.offRow w t size v n xs) (hb : Below w.heap.size w w') : World.offRow w' t size v n xs := offRow_only (S := fun _ => False) h (Only.of_below hb) (fun _ _ k => k)
/-- The flow behind it. -/
def FS.sent (f : FS) (v : Value) (now size r : Int) (k : Nat) : FS := { f with g := (f.g.pass now size).2, br := f.br + 1, wa := f.wa + 1, vh := v, L := f.L ++ [⟨k, f.br, size, r, -1, false, false⟩] }
set_option maxRecDepth 100000 in
set_option maxHeartbeats 8000000 in
theorem psend_ok (w : World) (P : Nat) (s : PS) (h : PM w P s) (k : Nat) (size r : Int) (hk1 : (k : Int) ≤ 9223372036854775807) (f : FS) (hf : s.fs k = some f) (ht : f.torn = false) (h1 : 1 ≤ size) (h2 : size ≤ f.f.s) (h8 : size ≤ 8) (h3 : f.wa < 40) (h30 : 0 ≤ f.wa)
    (hg : Gte f.g) (n0 : 0 ≤ s.now) (n1 : s.now ≤ 50000000000000000) (hr : (f.g.pass s.now size).1 = toTick r) (hb0 : 0 ≤ f.br) (hb1 : f.br ≤ 1000000000000) (hl : f.L.length ≤ 1000000000) :
    Calls Tryz.prog 44 #[.pointer (some ⟨s.Q, 0, none⟩), .int .i64 (k : Int), .int .i64 size] w fun e w' => e = .returned .nilIface ∧ ∃ v' o', PTo w P s w' { s with fs := upd s.fs k (f.sent v' s.now size r k), o := o' } := by
  have HL := hide (plive_some w P s h k hk1 f hf ht)
  have HAc := hide (fun W => accept_ok size f.f.s f.wa W h1 h2 h3)
  have HH := hide h
  have hfm := h.fl k f hf
  have c0 := hfm.shape.1
  have c13 := hfm.c13
  obtain ⟨i0, hi0, hz0, hz1, hz2⟩ := info_five infoPkt
  have HI0 := hide hi0
  have HZ0 := hide hz0
  have HZ1 := hide hz1
  have HZ2 := hide hz2
  have HF := hide hf
  have HGt := hide hg
  have HR := hide hr
  clear h hf ht hg hfm hr h2 hi0 hz0 hz1 hz2
  go_enter Tryz.func44, Tryz.ntmps44
  go_wp2_with fail
  refine (unhide HL).mono ?_
  rintro e w1 ⟨rfl, rfl⟩
  clear HL
  go_wp2_with fail
  go_quiet (first | (go_at_call 59; refine Calls.quiet_of_same (unhide HAc _)))
  have HT0 := hide ((PTo.refl (unhide HH)).below (drewN_bel (Below.refl _ _) nq))
  clear c0 c13 HAc
  generalize w1.drewN nq = W at *
  have hPW := (unhide HT0).pm
  have hfW := hPW.fl k f (unhide HF)
  have q0 := hPW.c0
  have c12 := hfW.c12
  have c14 := hfW.c14
  obtain ⟨av, cv, hvh⟩ := hfW.hlLen
  have hhl := hfW.hl.1
  rw [hvh] at c14 hhl
  have HP := hide (pass_any W.drew P s (hPW.below (Below.refl _ _).drew) k f (unhide HF) s.now size (unhide HGt) n0 n1 h1 h8)
  rw [unhide HR] at HP
  have HSp := hide (show ∀ (w' : World) (s' : PS) (f' : FS), PM w' P s' → s'.Q = s.Q → s'.now = s.now → s'.fs k = some f' → f'.a = f.a → f'.br = f.br → w'.cell? ⟨f.a, 12, none⟩ = some (.int .i64 f.br) ∧ w'.cell? ⟨s.Q, 0, none⟩ = some (.int .i64 s.now) from fun w' s' f' hp e1 e2 e3 e4 e5 => by
    have a1 := (hp.fl k f' e3).c12
    have a2 := hp.c0
    rw [e4, e5] at a1
    rw [e1, e2] at a2
    exact ⟨a1, a2⟩)
  have HSW := hide (show W.drew.cell? ⟨f.a, 12, none⟩ = some (.int .i64 f.br) ∧ W.drew.cell? ⟨s.Q, 0, none⟩ = some (.int .i64 s.now) from ⟨c12, q0⟩)
  have HHl := hide hhl
  have HVh := hide hvh
  have hll : (f.L.length : Int) ≤ 1000000000 := by omega
  clear hPW hfW hhl hvh c12 q0
  generalize hrdy : toTick r = rdy at *
  have HRdy := hide hrdy
  clear hrdy
  go_wp2_with fail
  refine wp_region_held_drew (S := (fun w' : World => w'.cell? ⟨f.a, 12, none⟩ = some (.int .i64 f.br) ∧ w'.cell? ⟨s.Q, 0, none⟩ = some (.int .i64 s.now))) (by kernel_rfl) (unhide HSW) (fun hHeld => ?_)
  refine wpAnyH_take (i := 0) (v := ?_) rfl (by kernel_rfl) (by kernel_rfl) (by kernel_rfl) (fun _ _ _ h => h) (Or.inl ⟨by rfl, ?_⟩) (by assumption) ?_
  rotate_left
  · intro w hSw; (try dsimp only at hSw); go_simp; (try rfl)
  (try go_frame)
  refine wpAnyH_take (i := 1) (v := ?_) rfl (by kernel_rfl) (by kernel_rfl) (by kernel_rfl) (fun _ _ _ h => h) (Or.inl ⟨by rfl, ?_⟩) (by assumption) ?_
  rotate_left
  · intro w hSw; (try dsimp only at hSw); go_simp; (try rfl)
  (try go_frame)
  refine wpAnyH_take (i := 2) (v := ?_) rfl (by kernel_rfl) (by kernel_rfl) (by kernel_rfl) (fun _ _ _ h => h) (Or.inl ⟨by rfl, ?_⟩) (by assumption) ?_
  rotate_left
  · intro w hSw; (try dsimp only at hSw); go_simp; (try rfl)
  (try go_frame)
  refine wpAnyH_take (i := 3) (v := ?_) rfl (by kernel_rfl) (by kernel_rfl) (by kernel_rfl) (fun _ _ _ h => h) (Or.inl ⟨by rfl, ?_⟩) (by assumption) ?_
  rotate_left
  · intro w hSw; (try dsimp only at hSw); go_simp; (try rfl)
  (try go_frame)
  refine wpAnyH_take (i := 5) (v := ?_) rfl (by kernel_rfl) (by kernel_rfl) (by kernel_rfl) (fun _ _ _ h => h) (Or.inl ⟨by rfl, ?_⟩) (by assumption) ?_
  rotate_left
  · intro w hSw; (try dsimp only at hSw); go_simp; (try rfl)
  (try go_frame)
  refine wpAnyH_take (i := 6) (v := ?_) rfl (by kernel_rfl) (by kernel_rfl) (by kernel_rfl) (fun _ _ _ h => h) (Or.inl ⟨by rfl, ?_⟩) (by assumption) ?_
  rotate_left
  · intro w hSw; (try dsimp only at hSw); go_simp; (try rfl)
  (try go_frame)
  refine wpAnyH_take (i := 7) (v := ?_) rfl (by kernel_rfl) (by kernel_rfl) (by kernel_rfl) (fun _ _ _ h => h) (Or.inl ⟨by rfl, ?_⟩) (by assumption) ?_
  rotate_left
  · intro w hSw; (try dsimp only at hSw); go_simp; (try rfl)
  (try go_frame)
  refine wpAnyH_take (i := 8) (v := ?_) rfl (by kernel_rfl) (by kernel_rfl) (by kernel_rfl) (fun _ _ _ h => h) (Or.inl ⟨by rfl, ?_⟩) (by assumption) ?_
  rotate_left
  · intro w hSw; (try dsimp only at hSw); go_simp; (try rfl)
  (try go_frame)
  refine wpAnyH_take (i := 9) (v := ?_) rfl (by kernel_rfl) (by kernel_rfl) (by kernel_rfl) (fun _ _ _ h => h) (Or.inl ⟨by rfl, ?_⟩) (by assumption) ?_
  rotate_left
  · intro w hSw; (try dsimp only at hSw); go_simp; (try rfl)
  (try go_frame)
  refine wpAnyH_take (i := 10) (v := ?_) rfl (by kernel_rfl) (by kernel_rfl) (by kernel_rfl) (fun _ _ _ h => h) (Or.inl ⟨by rfl, ?_⟩) (by assumption) ?_
  rotate_left
  · intro w hSw; (try dsimp only at hSw); go_simp; (try rfl)
  (try go_frame)
  refine wpAnyH_take (i := 11) (v := ?_) rfl (by kernel_rfl) (by kernel_rfl) (by kernel_rfl) (fun _ _ _ h => h) (Or.inl ⟨by rfl, ?_⟩) (by assumption) ?_
  rotate_left
  · intro w hSw; (try dsimp only at hSw); go_simp; (try rfl)
  (try go_frame)
  refine wpAnyH_take (i := 12) (v := ?_) rfl (by kernel_rfl) (by kernel_rfl) (by kernel_rfl) (fun _ _ _ h => h) (Or.inl ⟨by rfl, ?_⟩) (by assumption) ?_
  rotate_left
  · intro w hSw; (try dsimp only at hSw); go_simp; (try rfl)
  (try go_frame)
  refine wpAnyH_take (i := 13) (v := ?_) rfl (by kernel_rfl) (by kernel_rfl) (by kernel_rfl) (fun _ _ _ h => h) (Or.inl ⟨by rfl, ?_⟩) (by assumption) ?_
  rotate_left
  · intro w hSw; (try dsimp only at hSw); go_simp; (try rfl)
  (try go_frame)
  refine wpAnyH_take (i := 14) (v := ?_) rfl (by kernel_rfl) (by kernel_rfl) (by kernel_rfl) (fun _ _ _ h => h) (Or.inl ⟨by rfl, ?_⟩) (by assumption) ?_
  rotate_left
  · intro w hSw; (try dsimp only at hSw); go_simp; (try rfl)
  (try go_frame)
  refine wpAnyH_take (i := 15) (v := ?_) rfl (by kernel_rfl) (by kernel_rfl) (by kernel_rfl) (fun _ _ _ h => h) (Or.inl ⟨by rfl, ?_⟩) (by assumption) ?_
  rotate_left
  · intro w hSw; (try dsimp only at hSw); go_simp; (try rfl)
  (try go_frame)
  refine wpAnyH_take (i := 16) (v := ?_) rfl (by kernel_rfl) (by kernel_rfl) (by kernel_rfl) (fun _ _ _ h => h) (Or.inl ⟨by rfl, ?_⟩) (by assumption) ?_
  rotate_left
  · intro w hSw; (try dsimp only at hSw); go_simp; (try rfl)
  (try go_frame)
  refine wpAnyH_take (i := 17) (v := ?_) rfl (by kernel_rfl) (by kernel_rfl) (by kernel_rfl) (fun _ _ _ h => h) (Or.inl ⟨by rfl, ?_⟩) (by assumption) ?_
  rotate_left
  · intro w hSw; (try dsimp only at hSw); go_simp; (try rfl)
  (try go_frame)
  refine wpAnyH_take (i := 18) (v := ?_) rfl (by kernel_rfl) (by kernel_rfl) (by kernel_rfl) (fun _ _ _ h => h) (Or.inl ⟨by rfl, ?_⟩) (by assumption) ?_
  rotate_left
  · intro w hSw; (try dsimp only at hSw); go_simp; (try rfl)
  (try go_frame)
  refine wpAnyH_ready (rs := [4, 19]) (by kernel_rfl) (by simp) (AllReadyH.cons rfl (fun K hK => ?_) (AllReadyH.cons rfl (fun K hK => ?_) AllReadyH.nil))
  · go_simp
    refine hK.out _ _ (unhide HSW) (fun hHeld => ?_)
    clear hK K
    (try go_frame)
    refine wpAnyH_ready (rs := [19]) (by kernel_rfl) (by simp) (AllReadyH.cons rfl (fun K hK => ?_) AllReadyH.nil)
    go_simp
    refine (unhide HP).mono ?_
    rintro e w2 ⟨rfl, hT1, hO1⟩
    have hS2 := unhide HSp w2 _ _ hT1.pm rfl rfl (upd_same _ _ _) rfl rfl
    have HT1 := hide hT1
    have d14 := (hT1.pm.fl k _ (upd_same _ _ _)).c14
    have HO1 := hide hO1
    have hA2 : f.a < w2.heap.size := (hT1.pm.fl k _ (upd_same _ _ _)).blk.lt
    have d14b : w2.cell? ⟨f.a, 14, none⟩ = some (.slice av f.L.length cv) := by rw [← unhide HVh]; exact d14
    have d14c := fun ob => (World.cell?_alloc_past (w := w2) ob f.a 14 hA2).trans d14b
    have hS2a := fun ob => (show (w2.alloc ob).cell? ⟨f.a, 12, none⟩ = some (.int .i64 f.br) ∧ (w2.alloc ob).cell? ⟨s.Q, 0, none⟩ = some (.int .i64 s.now) from ⟨(World.cell?_alloc_past (w := w2) ob f.a 12 hA2).trans hS2.1, (World.cell?_alloc_past (w := w2) ob s.Q 0 (World.block_lt_of_cell? _ _ hS2.2)).trans hS2.2⟩)
    have HS2a := hide hS2a
    have HS2 := hide hS2
    clear hT1 hO1 d14 hS2 hS2a
    go_simp
    refine hK.out _ _ (unhide HS2) (fun hHeld => ?_)
    clear hK K HP
    (try go_frame)
    refine wpAnyH_take (i := 20) (v := ?_) rfl (by kernel_rfl) (by kernel_rfl) (by kernel_rfl) (fun _ _ _ h => h) (Or.inl ⟨by rfl, ?_⟩) (by assumption) ?_
    rotate_left
    · intro w hSw; (try dsimp only at hSw); go_simp; (try rfl)
    (try go_frame)
    refine wpAnyH_ready (rs := [21]) (by kernel_rfl) (by simp) (AllReadyH.cons rfl (fun K hK => ?_) AllReadyH.nil)
    go_simp
    refine hK.out _ _ (unhide HS2a _) (fun hHeld => ?_)
    clear hK K
    (try go_frame)
    refine wpAnyH_ready (rs := [22]) (by kernel_rfl) (by simp) (AllReadyH.cons rfl (fun K hK => ?_) AllReadyH.nil)
    refine step_append_off _ rfl (.tmp 41) (.tmp 58) 114 rfl 118 i0 _ 4 32 Tryz.underlying114 (unhide HI0) (unhide HZ0) (unhide HZ1) (unhide HZ2) rfl (by omega) (.slice av f.L.length cv) f.L.length (hcells f.L) (by rfl) (offRow_bel (by have := ((unhide HT1).pm.fl k _ (upd_same _ _ _)).hl.1; rw [← unhide HVh]; exact this) (bel_one _)) ⟨w2.heap.size, 0, none⟩ 1 1 [.int .i64 (k : Int), .int .i64 f.br, .int .i64 size, .int .i64 rdy] (by rfl) (by rfl) (World.news_of_block (cs := #[.int .i64 (k : Int), .int .i64 f.br, .int .i64 size, .int .i64 rdy]) (t := 118) (fr := (0, 0)) (heap_alloc_new w2 _)) (by simp [Value.oneCell']) (by unfold maxLen; omega) (by omega) ?_
    intro a' c' w3 hown hgrow hat
    have hX := (unhide HT1).pm.heldOn (p := ⟨k, f.br, size, r, -1, false, false⟩) (upd_same _ _ _) (bel_one _) (by unfold hcs; rw [unhide HRdy]; exact hown) (by rw [← unhide HVh] at hgrow; exact hgrow) (fun g' hg' => by rw [← unhide HVh] at hat; exact (hat g' hg').imp id (fun e => by rw [World.size_alloc] at e; omega))
    have e14 := hX.1.cell (j := 14) rfl
    have z14 := hX.1.frozen 14
    have hS3 : w3.cell? ⟨f.a, 12, none⟩ = some (.int .i64 f.br) ∧ w3.cell? ⟨s.Q, 0, none⟩ = some (.int .i64 s.now) := by
      refine ⟨hX.1.cell (j := 12) rfl, ?_⟩
      have := (unhide HT1).pm.inn.only hX.2.1 (fun e => by have e' : s.o s.Q = 8 + 2 * k := e; have o2 := (unhide HH).oQ; omega)
      exact this.cell (j := 0) rfl
    have HX := hide hX.2.2
    have hS4 := unhide HSp _ _ _ hX.2.2.pm rfl rfl (upd_same _ _ _) rfl rfl
    have HS4 := hide hS4
    refine hK.out _ _ hS3 (fun hHeld => ?_)
    clear hK K hX hown hgrow hat hS3 hS4
    (try go_frame)
    refine wpAnyH_take (i := 23) (v := ?_) rfl (by kernel_rfl) (by kernel_rfl) (by kernel_rfl) (fun _ _ _ h => h) (Or.inl ⟨by rfl, ?_⟩) (by assumption) ?_
    rotate_left
    · intro w hSw; (try dsimp only at hSw); go_simp; (try rfl)
    (try go_frame)
    refine wpAnyH_take (i := 24) (v := ?_) rfl (by kernel_rfl) (by kernel_rfl) (by kernel_rfl) (fun _ _ _ h => h) (Or.inl ⟨by rfl, ?_⟩) (by assumption) ?_
    rotate_left
    · intro w hSw; (try dsimp only at hSw); go_simp; (try rfl)
    (try go_frame)
    refine wpAnyH_ready (rs := [25]) (by kernel_rfl) (by simp) (AllReadyH.cons rfl (fun K hK => ?_) AllReadyH.nil)
    go_simp
    refine hK.out _ _ (unhide HS4) (fun hHeld => ?_)
    clear hK K
    refine wpAnyH_done (by kernel_rfl) ?_ _
    clear hHeld e14 z14
    have HT5 := hide (((unhide HT0).below (Below.refl _ _).drew).trans ((unhide HT1).trans (unhide HX)))
    rw [upd_upd] at HT5
    have b12 := (unhide HS4).1
    have z12 := ((unhide HT5).pm.fl k _ (upd_same _ _ _)).blk.frozen 12
    have HT6 := hide ((unhide HT5).trans ((unhide HT5).pm.setBr (upd_same _ _ _) (f.br + 1)))
    rw [upd_upd] at HT6
    have b13 := ((unhide HT6).pm.fl k _ (upd_same _ _ _)).c13
    have z13 := ((unhide HT6).pm.fl k _ (upd_same _ _ _)).blk.frozen 13
    have HT7 := hide ((unhide HT6).trans ((unhide HT6).pm.setWa (upd_same _ _ _) (f.wa + 1)))
    rw [upd_upd] at HT7
    clear HX HT0 HT1 HS4 HS2 HS2a d14c
    generalize (w3.setCell ⟨f.a, 14, none⟩ (.slice a' (f.L.length + 1) c')) = W4 at *
    have hw12 : IntKind.i64.wrap (f.br + 1) = f.br + 1 := by go_arith
    have hw13 : IntKind.i64.wrap (f.wa + 1) = f.wa + 1 := by go_arith
    go_wp2_with fail
    go_ret
    exact ⟨rfl, _, _, unhide HT7⟩
  · go_simp
    refine (unhide HP).mono ?_
    rintro e w2 ⟨rfl, hT1, hO1⟩
    have hS2 := unhide HSp w2 _ _ hT1.pm rfl rfl (upd_same _ _ _) rfl rfl
    have HT1 := hide hT1
    have d14 := (hT1.pm.fl k _ (upd_same _ _ _)).c14
    have HO1 := hide hO1
    have hA2 : f.a < w2.heap.size := (hT1.pm.fl k _ (upd_same _ _ _)).blk.lt
    have d14b : w2.cell? ⟨f.a, 14, none⟩ = some (.slice av f.L.length cv) := by rw [← unhide HVh]; exact d14
    have d14c := fun ob => (World.cell?_alloc_past (w := w2) ob f.a 14 hA2).trans d14b
    have hS2a := fun ob => (show (w2.alloc ob).cell? ⟨f.a, 12, none⟩ = some (.int .i64 f.br) ∧ (w2.alloc ob).cell? ⟨s.Q, 0, none⟩ = some (.int .i64 s.now) from ⟨(World.cell?_alloc_past (w := w2) ob f.a 12 hA2).trans hS2.1, (World.cell?_alloc_past (w := w2) ob s.Q 0 (World.block_lt_of_cell? _ _ hS2.2)).trans hS2.2⟩)
    have HS2a := hide hS2a
    have HS2 := hide hS2
    clear hT1 hO1 d14 hS2 hS2a
    go_simp
    refine hK.out _ _ (unhide HS2) (fun hHeld => ?_)
    clear hK K HP
    (try go_frame)
    refine wpAnyH_take (i := 20) (v := ?_) rfl (by kernel_rfl) (by kernel_rfl) (by kernel_rfl) (fun _ _ _ h => h) (Or.inl ⟨by rfl, ?_⟩) (by assumption) ?_
    rotate_left
    · intro w hSw; (try dsimp only at hSw); go_simp; (try rfl)
    (try go_frame)
    refine wpAnyH_ready (rs := [4, 21]) (by kernel_rfl) (by simp) (AllReadyH.cons rfl (fun K hK => ?_) (AllReadyH.cons rfl (fun K hK => ?_) AllReadyH.nil))
    · go_simp
      refine hK.out _ _ (unhide HS2) (fun hHeld => ?_)
      clear hK K
      (try go_frame)
      refine wpAnyH_ready (rs := [21]) (by kernel_rfl) (by simp) (AllReadyH.cons rfl (fun K hK => ?_) AllReadyH.nil)
      go_simp
      refine hK.out _ _ (unhide HS2a _) (fun hHeld => ?_)
      clear hK K
      (try go_frame)
      refine wpAnyH_ready (rs := [22]) (by kernel_rfl) (by simp) (AllReadyH.cons rfl (fun K hK => ?_) AllReadyH.nil)
      refine step_append_off _ rfl (.tmp 41) (.tmp 58) 114 rfl 118 i0 _ 4 32 Tryz.underlying114 (unhide HI0) (unhide HZ0) (unhide HZ1) (unhide HZ2) rfl (by omega) (.slice av f.L.length cv) f.L.length (hcells f.L) (by rfl) (offRow_bel (by have := ((unhide HT1).pm.fl k _ (upd_same _ _ _)).hl.1; rw [← unhide HVh]; exact this) (bel_one _)) ⟨w2.heap.size, 0, none⟩ 1 1 [.int .i64 (k : Int), .int .i64 f.br, .int .i64 size, .int .i64 rdy] (by rfl) (by rfl) (World.news_of_block (cs := #[.int .i64 (k : Int), .int .i64 f.br, .int .i64 size, .int .i64 rdy]) (t := 118) (fr := (0, 0)) (heap_alloc_new w2 _)) (by simp [Value.oneCell']) (by unfold maxLen; omega) (by omega) ?_
      intro a' c' w3 hown hgrow hat
      have hX := (unhide HT1).pm.heldOn (p := ⟨k, f.br, size, r, -1, false, false⟩) (upd_same _ _ _) (bel_one _) (by unfold hcs; rw [unhide HRdy]; exact hown) (by rw [← unhide HVh] at hgrow; exact hgrow) (fun g' hg' => by rw [← unhide HVh] at hat; exact (hat g' hg').imp id (fun e => by rw [World.size_alloc] at e; omega))
      have e14 := hX.1.cell (j := 14) rfl
      have z14 := hX.1.frozen 14
      have hS3 : w3.cell? ⟨f.a, 12, none⟩ = some (.int .i64 f.br) ∧ w3.cell? ⟨s.Q, 0, none⟩ = some (.int .i64 s.now) := by
        refine ⟨hX.1.cell (j := 12) rfl, ?_⟩
        have := (unhide HT1).pm.inn.only hX.2.1 (fun e => by have e' : s.o s.Q = 8 + 2 * k := e; have o2 := (unhide HH).oQ; omega)
        exact this.cell (j := 0) rfl
      have HX := hide hX.2.2
      have hS4 := unhide HSp _ _ _ hX.2.2.pm rfl rfl (upd_same _ _ _) rfl rfl
      have HS4 := hide hS4
      refine hK.out _ _ hS3 (fun hHeld => ?_)
      clear hK K hX hown hgrow hat hS3 hS4
      (try go_frame)
      refine wpAnyH_take (i := 23) (v := ?_) rfl (by kernel_rfl) (by kernel_rfl) (by kernel_rfl) (fun _ _ _ h => h) (Or.inl ⟨by rfl, ?_⟩) (by assumption) ?_
      rotate_left
      · intro w hSw; (try dsimp only at hSw); go_simp; (try rfl)
      (try go_frame)
      refine wpAnyH_take (i := 24) (v := ?_) rfl (by kernel_rfl) (by kernel_rfl) (by kernel_rfl) (fun _ _ _ h => h) (Or.inl ⟨by rfl, ?_⟩) (by assumption) ?_
      rotate_left
      · intro w hSw; (try dsimp only at hSw); go_simp; (try rfl)
      (try go_frame)
      refine wpAnyH_ready (rs := [25]) (by kernel_rfl) (by simp) (AllReadyH.cons rfl (fun K hK => ?_) AllReadyH.nil)
      go_simp
      refine hK.out _ _ (unhide HS4) (fun hHeld => ?_)
      clear hK K
      refine wpAnyH_done (by kernel_rfl) ?_ _
      clear hHeld e14 z14
      have HT5 := hide (((unhide HT0).below (Below.refl _ _).drew).trans ((unhide HT1).trans (unhide HX)))
      rw [upd_upd] at HT5
      have b12 := (unhide HS4).1
      have z12 := ((unhide HT5).pm.fl k _ (upd_same _ _ _)).blk.frozen 12
      have HT6 := hide ((unhide HT5).trans ((unhide HT5).pm.setBr (upd_same _ _ _) (f.br + 1)))
      rw [upd_upd] at HT6
      have b13 := ((unhide HT6).pm.fl k _ (upd_same _ _ _)).c13
      have z13 := ((unhide HT6).pm.fl k _ (upd_same _ _ _)).blk.frozen 13
      have HT7 := hide ((unhide HT6).trans ((unhide HT6).pm.setWa (upd_same _ _ _) (f.wa + 1)))
      rw [upd_upd] at HT7
      clear HX HT0 HT1 HS4 HS2 HS2a d14c
      generalize (w3.setCell ⟨f.a, 14, none⟩ (.slice a' (f.L.length + 1) c')) = W4 at *
      have hw12 : IntKind.i64.wrap (f.br + 1) = f.br + 1 := by go_arith
      have hw13 : IntKind.i64.wrap (f.wa + 1) = f.wa + 1 := by go_arith
      go_wp2_with fail
      go_ret
      exact ⟨rfl, _, _, unhide HT7⟩
    · go_simp
      refine hK.out _ _ (unhide HS2a _) (fun hHeld => ?_)
      clear hK K
      (try go_frame)
      refine wpAnyH_ready (rs := [4]) (by kernel_rfl) (by simp) (AllReadyH.cons rfl (fun K hK => ?_) AllReadyH.nil)
      go_simp
      refine hK.out _ _ (unhide HS2a _) (fun hHeld => ?_)
      clear hK K
      (try go_frame)
      refine wpAnyH_ready (rs := [22]) (by kernel_rfl) (by simp) (AllReadyH.cons rfl (fun K hK => ?_) AllReadyH.nil)
      refine step_append_off _ rfl (.tmp 41) (.tmp 58) 114 rfl 118 i0 _ 4 32 Tryz.underlying114 (unhide HI0) (unhide HZ0) (unhide HZ1) (unhide HZ2) rfl (by omega) (.slice av f.L.length cv) f.L.length (hcells f.L) (by rfl) (offRow_bel (by have := ((unhide HT1).pm.fl k _ (upd_same _ _ _)).hl.1; rw [← unhide HVh]; exact this) (bel_one _)) ⟨w2.heap.size, 0, none⟩ 1 1 [.int .i64 (k : Int), .int .i64 f.br, .int .i64 size, .int .i64 rdy] (by rfl) (by rfl) (World.news_of_block (cs := #[.int .i64 (k : Int), .int .i64 f.br, .int .i64 size, .int .i64 rdy]) (t := 118) (fr := (0, 0)) (heap_alloc_new w2 _)) (by simp [Value.oneCell']) (by unfold maxLen; omega) (by omega) ?_
      intro a' c' w3 hown hgrow hat
      have hX := (unhide HT1).pm.heldOn (p := ⟨k, f.br, size, r, -1, false, false⟩) (upd_same _ _ _) (bel_one _) (by unfold hcs; rw [unhide HRdy]; exact hown) (by rw [← unhide HVh] at hgrow; exact hgrow) (fun g' hg' => by rw [← unhide HVh] at hat; exact (hat g' hg').imp id (fun e => by rw [World.size_alloc] at e; omega))
      have e14 := hX.1.cell (j := 14) rfl
      have z14 := hX.1.frozen 14
      have hS3 : w3.cell? ⟨f.a, 12, none⟩ = some (.int .i64 f.br) ∧ w3.cell? ⟨s.Q, 0, none⟩ = some (.int .i64 s.now) := by
        refine ⟨hX.1.cell (j := 12) rfl, ?_⟩
        have := (unhide HT1).pm.inn.only hX.2.1 (fun e => by have e' : s.o s.Q = 8 + 2 * k := e; have o2 := (unhide HH).oQ; omega)
        exact this.cell (j := 0) rfl
      have HX := hide hX.2.2
      have hS4 := unhide HSp _ _ _ hX.2.2.pm rfl rfl (upd_same _ _ _) rfl rfl
      have HS4 := hide hS4
      refine hK.out _ _ hS3 (fun hHeld => ?_)
      clear hK K hX hown hgrow hat hS3 hS4
      (try go_frame)
      refine wpAnyH_take (i := 23) (v := ?_) rfl (by kernel_rfl) (by kernel_rfl) (by kernel_rfl) (fun _ _ _ h => h) (Or.inl ⟨by rfl, ?_⟩) (by assumption) ?_
      rotate_left
      · intro w hSw; (try dsimp only at hSw); go_simp; (try rfl)
      (try go_frame)
      refine wpAnyH_take (i := 24) (v := ?_) rfl (by kernel_rfl) (by kernel_rfl) (by kernel_rfl) (fun _ _ _ h => h) (Or.inl ⟨by rfl, ?_⟩) (by assumption) ?_
      rotate_left
      · intro w hSw; (try dsimp only at hSw); go_simp; (try rfl)
      (try go_frame)
      refine wpAnyH_ready (rs := [25]) (by kernel_rfl) (by simp) (AllReadyH.cons rfl (fun K hK => ?_) AllReadyH.nil)
      go_simp
      refine hK.out _ _ (unhide HS4) (fun hHeld => ?_)
      clear hK K
      refine wpAnyH_done (by kernel_rfl) ?_ _
      clear hHeld e14 z14
      have HT5 := hide (((unhide HT0).below (Below.refl _ _).drew).trans ((unhide HT1).trans (unhide HX)))
      rw [upd_upd] at HT5
      have b12 := (unhide HS4).1
      have z12 := ((unhide HT5).pm.fl k _ (upd_same _ _ _)).blk.frozen 12
      have HT6 := hide ((unhide HT5).trans ((unhide HT5).pm.setBr (upd_same _ _ _) (f.br + 1)))
      rw [upd_upd] at HT6
      have b13 := ((unhide HT6).pm.fl k _ (upd_same _ _ _)).c13
      have z13 := ((unhide HT6).pm.fl k _ (upd_same _ _ _)).blk.frozen 13
      have HT7 := hide ((unhide HT6).trans ((unhide HT6).pm.setWa (upd_same _ _ _) (f.wa + 1)))
      rw [upd_upd] at HT7
      clear HX HT0 HT1 HS4 HS2 HS2a d14c
      generalize (w3.setCell ⟨f.a, 14, none⟩ (.slice a' (f.L.length + 1) c')) = W4 at *
      have hw12 : IntKind.i64.wrap (f.br + 1) = f.br + 1 := by go_arith
      have hw13 : IntKind.i64.wrap (f.wa + 1) = f.wa + 1 := by go_arith
      go_wp2_with fail
      go_ret
      exact ⟨rfl, _, _, unhide HT7⟩
end Go.Proofs.YtcnmajndackohaaGreatDoor
