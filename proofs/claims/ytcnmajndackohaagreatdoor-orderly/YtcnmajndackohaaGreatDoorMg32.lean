import Derived.Test.YtcnmajndackohaaGreatDoorMg31
import Derived.Test.YtcnmajndackohaaGreatDoorMg26
/-
  What the program's Send does where it takes a packet.
-/
namespace Go.Proofs.YtcnmajndackohaaGreatDoor
open Go.RowKit
attribute [local go_sem ↓] Go.wp_at_zero Go.wp_at_succ

theorem offRow_bel {w w' : World} {t : TypeId} {size n : Nat} {v : Value} {xs : List Value} (h : World.offRow w t size v n xs) (hb : Below w.heap.size w w') : World.offRow w' t size v n xs := offRow_only (S := fun _ => False) h (Only.of_below hb) (fun _ _ k => k)
/-- The flow behind it. -/
def FS.sent (f : FS) (v : Value) (now size r : Int) (k : Nat) : FS := { f with g := (f.g.pass now size).2, br := f.br + 1, wa := f.wa + 1, vh := v, L := f.L ++ [⟨k, f.br, size, r, -1, false, false⟩] }
set_option maxRecDepth 100000 in
set_option maxHeartbeats 8000000 in
theorem psend_ok (w : World) (P : Nat) (s : PS) (h : PM w P s) (k : Nat) (size r : Int) (hk1 : (k : Int) ≤ 9223372036854775807) (f : FS) (hf : s.fs k = some f) (ht : f.torn = false) (h1 : 1 ≤ size) (h2 : size ≤ f.f.s) (h8 : size ≤ 8) (h3 : f.wa < 40) (h30 : 0 ≤ f.wa)
    (hg : Gte f.g) (n0 : 0 ≤ s.now) (n1 : s.now ≤ 50000000000000000) (hr : (f.g.pass s.now size).1 = toTick r) (hb0 : 0 ≤ f.br) (hb1 : f.br ≤ 1000000000000) (hl : f.L.length ≤ 1000000000) :
    Calls Tryz.prog 44 #[.pointer (some ⟨s.Q, 0, none⟩), .int .i64 (k : Int), .int .i64 size] w fun e w' => e = .returned .nilIface ∧ ∃ v' o', PTo w P s w' { s with fs := upd s.fs k (f.sent v' s.now size r k), o := o' } := by
  have HL := hide (plive_some w P s h k hk1 f hf ht)
  have HAc := hide (fun W => accept_ok size f.f.s f.wa W h1 h2 h3)
  have HH := hide h
  have hfm := h.fl k f hf
  have c0 := hfm.shape.1
  have c13 := hfm.c13
  obtain ⟨i0, hi0, hz0, hz1, hz2⟩ := info_five infoPkt
  have HI0 := hide hi0
  have HZ0 := hide hz0
  have HZ1 := hide hz1
  have HZ2 := hide hz2
  have HF := hide hf
  have HGt := hide hg
  have HR := hide hr
  clear h hf ht hg hfm hr h2 hi0 hz0 hz1 hz2
  go_enter Tryz.func44, Tryz.ntmps44
  go_wp2_with fail
  refine (unhide HL).mono ?_
  rintro e w1 ⟨rfl, rfl⟩
  clear HL
  go_wp2_with fail
  go_quiet (first | (go_at_call 59; refine Calls.quiet_of_same (unhide HAc _)))
  have HT0 := hide ((PTo.refl (unhide HH)).below (drewN_bel (Below.refl _ _) nq))
  clear c0 c13 HAc
  generalize w1.drewN nq = W at *
  have hPW := (unhide HT0).pm
  have hfW := hPW.fl k f (unhide HF)
  have q0 := hPW.c0
  have c12 := hfW.c12
  have c14 := hfW.c14
  obtain ⟨av, cv, hvh⟩ := hfW.hlLen
  have hhl := hfW.hl.1
  rw [hvh] at c14 hhl
  have HP := hide (pass_any W.drew P s (hPW.below (Below.refl _ _).drew) k f (unhide HF) s.now size (unhide HGt) n0 n1 h1 h8)
  rw [unhide HR] at HP
  have HSp := hide (show ∀ (w' : World) (s' : PS) (f' : FS), PM w' P s' → s'.Q = s.Q → s'.now = s.now → s'.fs k = some f' → f'.a = f.a → f'.br = f.br → w'.cell? ⟨f.a, 12, none⟩ = some (.int .i64 f.br) ∧ w'.cell? ⟨s.Q, 0, none⟩ = some (.int .i64 s.now) from fun w' s' f' hp e1 e2 e3 e4 e5 => by
    have a1 := (hp.fl k f' e3).c12
    have a2 := hp.c0
    rw [e4, e5] at a1
    rw [e1, e2] at a2
    exact ⟨a1, a2⟩)
  have HSW := hide (show W.drew.cell? ⟨f.a, 12, none⟩ = some (.int .i64 f.br) ∧ W.drew.cell? ⟨s.Q, 0, none⟩ = some (.int .i64 s.now) from ⟨c12, q0⟩)
  have HHl := hide hhl
  have HVh := hide hvh
  have hll : (f.L.length : Int) ≤ 1000000000 := by omega
  clear hPW hfW hhl hvh c12 q0
  generalize hrdy : toTick r = rdy at *
  have HRdy := hide hrdy
  clear hrdy
  go_wp2_with fail
  refine wp_region_held_drew (S := (fun w' : World => w'.cell? ⟨f.a, 12, none⟩ = some (.int .i64 f.br) ∧ w'.cell? ⟨s.Q, 0, none⟩ = some (.int .i64 s.now))) (by kernel_rfl) (unhide HSW) (fun hHeld => ?_)
  refine wpAnyH_take (i := 0) (v := ?_) rfl (by kernel_rfl) (by kernel_rfl) (by kernel_rfl) (fun _ _ _ h => h) (Or.inl ⟨by rfl, ?_⟩) (by assumption) ?_
  rotate_left
  · intro w hSw; (try dsimp only at hSw); go_simp; (try rfl)
  (try go_frame)
  refine wpAnyH_take (i := 1) (v := ?_) rfl (by kernel_rfl) (by kernel_rfl) (by kernel_rfl) (fun _ _ _ h => h) (Or.inl ⟨by rfl, ?_⟩) (by assumption) ?_
  rotate_left
  · intro w hSw; (try dsimp only at hSw); go_simp; (try rfl)
  (try go_frame)
  refine wpAnyH_take (i := 2) (v := ?_) rfl (by kernel_rfl) (by kernel_rfl) (by kernel_rfl) (fun _ _ _ h => h) (Or.inl ⟨by rfl, ?_⟩) (by assumption) ?_
  rotate_left
  · intro w hSw; (try dsimp only at hSw); go_simp; (try rfl)
  (try go_frame)
  refine wpAnyH_take (i := 3) (v := ?_) rfl (by kernel_rfl) (by kernel_rfl) (by kernel_rfl) (fun _ _ _ h => h) (Or.inl ⟨by rfl, ?_⟩) (by assumption) ?_
  rotate_left
  · intro w hSw; (try dsimp only at hSw); go_simp; (try rfl)
  (try go_frame)
  refine wpAnyH_take (i := 5) (v := ?_) rfl (by kernel_rfl) (by kernel_rfl) (by kernel_rfl) (fun _ _ _ h => h) (Or.inl ⟨by rfl, ?_⟩) (by assumption) ?_
  rotate_left
  · intro w hSw; (try dsimp only at hSw); go_simp; (try rfl)
  (try go_frame)
  refine wpAnyH_take (i := 6) (v := ?_) rfl (by kernel_rfl) (by kernel_rfl) (by kernel_rfl) (fun _ _ _ h => h) (Or.inl ⟨by rfl, ?_⟩) (by assumption) ?_
  rotate_left
  · intro w hSw; (try dsimp only at hSw); go_simp; (try rfl)
  (try go_frame)
  refine wpAnyH_take (i := 7) (v := ?_) rfl (by kernel_rfl) (by kernel_rfl) (by kernel_rfl) (fun _ _ _ h => h) (Or.inl ⟨by rfl, ?_⟩) (by assumption) ?_
  rotate_left
  · intro w hSw; (try dsimp only at hSw); go_simp; (try rfl)
  (try go_frame)
  refine wpAnyH_take (i := 8) (v := ?_) rfl (by kernel_rfl) (by kernel_rfl) (by kernel_rfl) (fun _ _ _ h => h) (Or.inl ⟨by rfl, ?_⟩) (by assumption) ?_
  rotate_left
  · intro w hSw; (try dsimp only at hSw); go_simp; (try rfl)
  (try go_frame)
  refine wpAnyH_take (i := 9) (v := ?_) rfl (by kernel_rfl) (by kernel_rfl) (by kernel_rfl) (fun _ _ _ h => h) (Or.inl ⟨by rfl, ?_⟩) (by assumption) ?_
  rotate_left
  · intro w hSw; (try dsimp only at hSw); go_simp; (try rfl)
  (try go_frame)
  refine wpAnyH_take (i := 10) (v := ?_) rfl (by kernel_rfl) (by kernel_rfl) (by kernel_rfl) (fun _ _ _ h => h) (Or.inl ⟨by rfl, ?_⟩) (by assumption) ?_
  rotate_left
  · intro w hSw; (try dsimp only at hSw); go_simp; (try rfl)
  (try go_frame)
  refine wpAnyH_take (i := 11) (v := ?_) rfl (by kernel_rfl) (by kernel_rfl) (by kernel_rfl) (fun _ _ _ h => h) (Or.inl ⟨by rfl, ?_⟩) (by assumption) ?_
  rotate_left
  · intro w hSw; (try dsimp only at hSw); go_simp; (try rfl)
  (try go_frame)
  refine wpAnyH_take (i := 12) (v := ?_) rfl (by kernel_rfl) (by kernel_rfl) (by kernel_rfl) (fun _ _ _ h => h) (Or.inl ⟨by rfl, ?_⟩) (by assumption) ?_
  rotate_left
  · intro w hSw; (try dsimp only at hSw); go_simp; (try rfl)
  (try go_frame)
  refine wpAnyH_take (i := 13) (v := ?_) rfl (by kernel_rfl) (by kernel_rfl) (by kernel_rfl) (fun _ _ _ h => h) (Or.inl ⟨by rfl, ?_⟩) (by assumption) ?_
  rotate_left
  · intro w hSw; (try dsimp only at hSw); go_simp; (try rfl)
  (try go_frame)
  refine wpAnyH_take (i := 14) (v := ?_) rfl (by kernel_rfl) (by kernel_rfl) (by kernel_rfl) (fun _ _ _ h => h) (Or.inl ⟨by rfl, ?_⟩) (by assumption) ?_
  rotate_left
  · intro w hSw; (try dsimp only at hSw); go_simp; (try rfl)
  (try go_frame)
  refine wpAnyH_take (i := 15) (v := ?_) rfl (by kernel_rfl) (by kernel_rfl) (by kernel_rfl) (fun _ _ _ h => h) (Or.inl ⟨by rfl, ?_⟩) (by assumption) ?_
  rotate_left
  · intro w hSw; (try dsimp only at hSw); go_simp; (try rfl)
  (try go_frame)
  refine wpAnyH_take (i := 16) (v := ?_) rfl (by kernel_rfl) (by kernel_rfl) (by kernel_rfl) (fun _ _ _ h => h) (Or.inl ⟨by rfl, ?_⟩) (by assumption) ?_
  rotate_left
  · intro w hSw; (try dsimp only at hSw); go_simp; (try rfl)
  (try go_frame)
  refine wpAnyH_take (i := 17) (v := ?_) rfl (by kernel_rfl) (by kernel_rfl) (by kernel_rfl) (fun _ _ _ h => h) (Or.inl ⟨by rfl, ?_⟩) (by assumption) ?_
  rotate_left
  · intro w hSw; (try dsimp only at hSw); go_simp; (try rfl)
  (try go_frame)
  refine wpAnyH_take (i := 18) (v := ?_) rfl (by kernel_rfl) (by kernel_rfl) (by kernel_rfl) (fun _ _ _ h => h) (Or.inl ⟨by rfl, ?_⟩) (by assumption) ?_
  rotate_left
  · intro w hSw; (try dsimp only at hSw); go_simp; (try rfl)
  (try go_frame)
  refine wpAnyH_ready (rs := [4, 19]) (by kernel_rfl) (by simp) (AllReadyH.cons rfl (fun K hK => ?_) (AllReadyH.cons rfl (fun K hK => ?_) AllReadyH.nil))
  · go_simp
    refine hK.out _ _ (unhide HSW) (fun hHeld => ?_)
    clear hK K
    (try go_frame)
    refine wpAnyH_ready (rs := [19]) (by kernel_rfl) (by simp) (AllReadyH.cons rfl (fun K hK => ?_) AllReadyH.nil)
    go_simp
    refine (unhide HP).mono ?_
    rintro e w2 ⟨rfl, hT1, hO1⟩
    have hS2 := unhide HSp w2 _ _ hT1.pm rfl rfl (upd_same _ _ _) rfl rfl
    have HT1 := hide hT1
    have d14 := (hT1.pm.fl k _ (upd_same _ _ _)).c14
    have HO1 := hide hO1
    have hA2 : f.a < w2.heap.size := (hT1.pm.fl k _ (upd_same _ _ _)).blk.lt
    have d14b : w2.cell? ⟨f.a, 14, none⟩ = some (.slice av f.L.length cv) := by rw [← unhide HVh]; exact d14
    have d14c := fun ob => (World.cell?_alloc_past (w := w2) ob f.a 14 hA2).trans d14b
    have hS2a := fun ob => (show (w2.alloc ob).cell? ⟨f.a, 12, none⟩ = some (.int .i64 f.br) ∧ (w2.alloc ob).cell? ⟨s.Q, 0, none⟩ = some (.int .i64 s.now) from ⟨(World.cell?_alloc_past (w := w2) ob f.a 12 hA2).trans hS2.1, (World.cell?_alloc_past (w := w2) ob s.Q 0 (World.block_lt_of_cell? _ _ hS2.2)).trans hS2.2⟩)
    have HS2a := hide hS2a
    have HS2 := hide hS2
    clear hT1 hO1 d14 hS2 hS2a
    go_simp
    refine hK.out _ _ (unhide HS2) (fun hHeld => ?_)
    clear hK K HP
    (try go_frame)
    refine wpAnyH_take (i := 20) (v := ?_) rfl (by kernel_rfl) (by kernel_rfl) (by kernel_rfl) (fun _ _ _ h => h) (Or.inl ⟨by rfl, ?_⟩) (by assumption) ?_
    rotate_left
    · intro w hSw; (try dsimp only at hSw); go_simp; (try rfl)
    (try go_frame)
    refine wpAnyH_ready (rs := [21]) (by kernel_rfl) (by simp) (AllReadyH.cons rfl (fun K hK => ?_) AllReadyH.nil)
    go_simp
    refine hK.out _ _ (unhide HS2a _) (fun hHeld => ?_)
    clear hK K
    (try go_frame)
    refine wpAnyH_ready (rs := [22]) (by kernel_rfl) (by simp) (AllReadyH.cons rfl (fun K hK => ?_) AllReadyH.nil)
    refine step_append_off _ rfl (.tmp 41) (.tmp 58) 114 rfl 118 i0 _ 4 32 Tryz.underlying114 (unhide HI0) (unhide HZ0) (unhide HZ1) (unhide HZ2) rfl (by omega) (.slice av f.L.length cv) f.L.length (hcells f.L) (by rfl) (offRow_bel (by have := ((unhide HT1).pm.fl k _ (upd_same _ _ _)).hl.1; rw [← unhide HVh]; exact this) (bel_one _)) ⟨w2.heap.size, 0, none⟩ 1 1 [.int .i64 (k : Int), .int .i64 f.br, .int .i64 size, .int .i64 rdy] (by rfl) (by rfl) (World.news_of_block (cs := #[.int .i64 (k : Int), .int .i64 f.br, .int .i64 size, .int .i64 rdy]) (t := 118) (fr := (0, 0)) (heap_alloc_new w2 _)) (by simp [Value.oneCell']) (by unfold maxLen; omega) (by omega) ?_
    intro a' c' w3 hown hgrow hat
    have hX := (unhide HT1).pm.heldOn (p := ⟨k, f.br, size, r, -1, false, false⟩) (upd_same _ _ _) (bel_one _) (by unfold hcs; rw [unhide HRdy]; exact hown) (by rw [← unhide HVh] at hgrow; exact hgrow) (fun g' hg' => by rw [← unhide HVh] at hat; exact (hat g' hg').imp id (fun e => by rw [World.size_alloc] at e; omega))
    have e14 := hX.1.cell (j := 14) rfl
    have z14 := hX.1.frozen 14
    have hS3 : w3.cell? ⟨f.a, 12, none⟩ = some (.int .i64 f.br) ∧ w3.cell? ⟨s.Q, 0, none⟩ = some (.int .i64 s.now) := by
      refine ⟨hX.1.cell (j := 12) rfl, ?_⟩
      have := (unhide HT1).pm.inn.only hX.2.1 (fun e => by have e' : s.o s.Q = 8 + 2 * k := e; have o2 := (unhide HH).oQ; omega)
      exact this.cell (j := 0) rfl
    have HX := hide hX.2.2
    have hS4 := unhide HSp _ _ _ hX.2.2.pm rfl rfl (upd_same _ _ _) rfl rfl
    have HS4 := hide hS4
    refine hK.out _ _ hS3 (fun hHeld => ?_)
    clear hK K hX hown hgrow hat hS3 hS4
    (try go_frame)
    refine wpAnyH_take (i := 23) (v := ?_) rfl (by kernel_rfl) (by kernel_rfl) (by kernel_rfl) (fun _ _ _ h => h) (Or.inl ⟨by rfl, ?_⟩) (by assumption) ?_
    rotate_left
    · intro w hSw; (try dsimp only at hSw); go_simp; (try rfl)
    (try go_frame)
    refine wpAnyH_take (i := 24) (v := ?_) rfl (by kernel_rfl) (by kernel_rfl) (by kernel_rfl) (fun _ _ _ h => h) (Or.inl ⟨by rfl, ?_⟩) (by assumption) ?_
    rotate_left
    · intro w hSw; (try dsimp only at hSw); go_simp; (try rfl)
    (try go_frame)
    refine wpAnyH_ready (rs := [25]) (by kernel_rfl) (by simp) (AllReadyH.cons rfl (fun K hK => ?_) AllReadyH.nil)
    go_simp
    refine hK.out _ _ (unhide HS4) (fun hHeld => ?_)
    clear hK K
    refine wpAnyH_done (by kernel_rfl) ?_ _
    clear hHeld e14 z14
    have HT5 := hide (((unhide HT0).below (Below.refl _ _).drew).trans ((unhide HT1).trans (unhide HX)))
    rw [upd_upd] at HT5
    have b12 := (unhide HS4).1
    have z12 := ((unhide HT5).pm.fl k _ (upd_same _ _ _)).blk.frozen 12
    have HT6 := hide ((unhide HT5).trans ((unhide HT5).pm.setBr (upd_same _ _ _) (f.br + 1)))
    rw [upd_upd] at HT6
    have b13 := ((unhide HT6).pm.fl k _ (upd_same _ _ _)).c13
    have z13 := ((unhide HT6).pm.fl k _ (upd_same _ _ _)).blk.frozen 13
    have HT7 := hide ((unhide HT6).trans ((unhide HT6).pm.setWa (upd_same _ _ _) (f.wa + 1)))
    rw [upd_upd] at HT7
    clear HX HT0 HT1 HS4 HS2 HS2a d14c
    generalize (w3.setCell ⟨f.a, 14, none⟩ (.slice a' (f.L.length + 1) c')) = W4 at *
    have hw12 : IntKind.i64.wrap (f.br + 1) = f.br + 1 := by go_arith
    have hw13 : IntKind.i64.wrap (f.wa + 1) = f.wa + 1 := by go_arith
    go_wp2_with fail
    go_ret
    exact ⟨rfl, _, _, unhide HT7⟩
  · go_simp
    refine (unhide HP).mono ?_
    rintro e w2 ⟨rfl, hT1, hO1⟩
    have hS2 := unhide HSp w2 _ _ hT1.pm rfl rfl (upd_same _ _ _) rfl rfl
    have HT1 := hide hT1
    have d14 := (hT1.pm.fl k _ (upd_same _ _ _)).c14
    have HO1 := hide hO1
    have hA2 : f.a < w2.heap.size := (hT1.pm.fl k _ (upd_same _ _ _)).blk.lt
    have d14b : w2.cell? ⟨f.a, 14, none⟩ = some (.slice av f.L.length cv) := by rw [← unhide HVh]; exact d14
    have d14c := fun ob => (World.cell?_alloc_past (w := w2) ob f.a 14 hA2).trans d14b
    have hS2a := fun ob => (show (w2.alloc ob).cell? ⟨f.a, 12, none⟩ = some (.int .i64 f.br) ∧ (w2.alloc ob).cell? ⟨s.Q, 0, none⟩ = some (.int .i64 s.now) from ⟨(World.cell?_alloc_past (w := w2) ob f.a 12 hA2).trans hS2.1, (World.cell?_alloc_past (w := w2) ob s.Q 0 (World.block_lt_of_cell? _ _ hS2.2)).trans hS2.2⟩)
    have HS2a := hide hS2a
    have HS2 := hide hS2
    clear hT1 hO1 d14 hS2 hS2a
    go_simp
    refine hK.out _ _ (unhide HS2) (fun hHeld => ?_)
    clear hK K HP
    (try go_frame)
    refine wpAnyH_take (i := 20) (v := ?_) rfl (by kernel_rfl) (by kernel_rfl) (by kernel_rfl) (fun _ _ _ h => h) (Or.inl ⟨by rfl, ?_⟩) (by assumption) ?_
    rotate_left
    · intro w hSw; (try dsimp only at hSw); go_simp; (try rfl)
    (try go_frame)
    refine wpAnyH_ready (rs := [4, 21]) (by kernel_rfl) (by simp) (AllReadyH.cons rfl (fun K hK => ?_) (AllReadyH.cons rfl (fun K hK => ?_) AllReadyH.nil))
    · go_simp
      refine hK.out _ _ (unhide HS2) (fun hHeld => ?_)
      clear hK K
      (try go_frame)
      refine wpAnyH_ready (rs := [21]) (by kernel_rfl) (by simp) (AllReadyH.cons rfl (fun K hK => ?_) AllReadyH.nil)
      go_simp
      refine hK.out _ _ (unhide HS2a _) (fun hHeld => ?_)
      clear hK K
      (try go_frame)
      refine wpAnyH_ready (rs := [22]) (by kernel_rfl) (by simp) (AllReadyH.cons rfl (fun K hK => ?_) AllReadyH.nil)
      refine step_append_off _ rfl (.tmp 41) (.tmp 58) 114 rfl 118 i0 _ 4 32 Tryz.underlying114 (unhide HI0) (unhide HZ0) (unhide HZ1) (unhide HZ2) rfl (by omega) (.slice av f.L.length cv) f.L.length (hcells f.L) (by rfl) (offRow_bel (by have := ((unhide HT1).pm.fl k _ (upd_same _ _ _)).hl.1; rw [← unhide HVh]; exact this) (bel_one _)) ⟨w2.heap.size, 0, none⟩ 1 1 [.int .i64 (k : Int), .int .i64 f.br, .int .i64 size, .int .i64 rdy] (by rfl) (by rfl) (World.news_of_block (cs := #[.int .i64 (k : Int), .int .i64 f.br, .int .i64 size, .int .i64 rdy]) (t := 118) (fr := (0, 0)) (heap_alloc_new w2 _)) (by simp [Value.oneCell']) (by unfold maxLen; omega) (by omega) ?_
      intro a' c' w3 hown hgrow hat
      have hX := (unhide HT1).pm.heldOn (p := ⟨k, f.br, size, r, -1, false, false⟩) (upd_same _ _ _) (bel_one _) (by unfold hcs; rw [unhide HRdy]; exact hown) (by rw [← unhide HVh] at hgrow; exact hgrow) (fun g' hg' => by rw [← unhide HVh] at hat; exact (hat g' hg').imp id (fun e => by rw [World.size_alloc] at e; omega))
      have e14 := hX.1.cell (j := 14) rfl
      have z14 := hX.1.frozen 14
      have hS3 : w3.cell? ⟨f.a, 12, none⟩ = some (.int .i64 f.br) ∧ w3.cell? ⟨s.Q, 0, none⟩ = some (.int .i64 s.now) := by
        refine ⟨hX.1.cell (j := 12) rfl, ?_⟩
        have := (unhide HT1).pm.inn.only hX.2.1 (fun e => by have e' : s.o s.Q = 8 + 2 * k := e; have o2 := (unhide HH).oQ; omega)
        exact this.cell (j := 0) rfl
      have HX := hide hX.2.2
      have hS4 := unhide HSp _ _ _ hX.2.2.pm rfl rfl (upd_same _ _ _) rfl rfl
      have HS4 := hide hS4
      refine hK.out _ _ hS3 (fun hHeld => ?_)
      clear hK K hX hown hgrow hat hS3 hS4
      (try go_frame)
      refine wpAnyH_take (i := 23) (v := ?_) rfl (by kernel_rfl) (by kernel_rfl) (by kernel_rfl) (fun _ _ _ h => h) (Or.inl ⟨by rfl, ?_⟩) (by assumption) ?_
      rotate_left
      · intro w hSw; (try dsimp only at hSw); go_simp; (try rfl)
      (try go_frame)
      refine wpAnyH_take (i := 24) (v := ?_) rfl (by kernel_rfl) (by kernel_rfl) (by kernel_rfl) (fun _ _ _ h => h) (Or.inl ⟨by rfl, ?_⟩) (by assumption) ?_
      rotate_left
      · intro w hSw; (try dsimp only at hSw); go_simp; (try rfl)
      (try go_frame)
      refine wpAnyH_ready (rs := [25]) (by kernel_rfl) (by simp) (AllReadyH.cons rfl (fun K hK => ?_) AllReadyH.nil)
      go_simp
      refine hK.out _ _ (unhide HS4) (fun hHeld => ?_)
      clear hK K
      refine wpAnyH_done (by kernel_rfl) ?_ _
      clear hHeld e14 z14
      have HT5 := hide (((unhide HT0).below (Below.refl _ _).drew).trans ((unhide HT1).trans (unhide HX)))
      rw [upd_upd] at HT5
      have b12 := (unhide HS4).1
      have z12 := ((unhide HT5).pm.fl k _ (upd_same _ _ _)).blk.frozen 12
      have HT6 := hide ((unhide HT5).trans ((unhide HT5).pm.setBr (upd_same _ _ _) (f.br + 1)))
      rw [upd_upd] at HT6
      have b13 := ((unhide HT6).pm.fl k _ (upd_same _ _ _)).c13
      have z13 := ((unhide HT6).pm.fl k _ (upd_same _ _ _)).blk.frozen 13
      have HT7 := hide ((unhide HT6).trans ((unhide HT6).pm.setWa (upd_same _ _ _) (f.wa + 1)))
      rw [upd_upd] at HT7
      clear HX HT0 HT1 HS4 HS2 HS2a d14c
      generalize (w3.setCell ⟨f.a, 14, none⟩ (.slice a' (f.L.length + 1) c')) = W4 at *
      have hw12 : IntKind.i64.wrap (f.br + 1) = f.br + 1 := by go_arith
      have hw13 : IntKind.i64.wrap (f.wa + 1) = f.wa + 1 := by go_arith
      go_wp2_with fail
      go_ret
      exact ⟨rfl, _, _, unhide HT7⟩
    · go_simp
      refine hK.out _ _ (unhide HS2a _) (fun hHeld => ?_)
      clear hK K
      (try go_frame)
      refine wpAnyH_ready (rs := [4]) (by kernel_rfl) (by simp) (AllReadyH.cons rfl (fun K hK => ?_) AllReadyH.nil)
      go_simp
      refine hK.out _ _ (unhide HS2a _) (fun hHeld => ?_)
      clear hK K
      (try go_frame)
      refine wpAnyH_ready (rs := [22]) (by kernel_rfl) (by simp) (AllReadyH.cons rfl (fun K hK => ?_) AllReadyH.nil)
      refine step_append_off _ rfl (.tmp 41) (.tmp 58) 114 rfl 118 i0 _ 4 32 Tryz.underlying114 (unhide HI0) (unhide HZ0) (unhide HZ1) (unhide HZ2) rfl (by omega) (.slice av f.L.length cv) f.L.length (hcells f.L) (by rfl) (offRow_bel (by have := ((unhide HT1).pm.fl k _ (upd_same _ _ _)).hl.1; rw [← unhide HVh]; exact this) (bel_one _)) ⟨w2.heap.size, 0, none⟩ 1 1 [.int .i64 (k : Int), .int .i64 f.br, .int .i64 size, .int .i64 rdy] (by rfl) (by rfl) (World.news_of_block (cs := #[.int .i64 (k : Int), .int .i64 f.br, .int .i64 size, .int .i64 rdy]) (t := 118) (fr := (0, 0)) (heap_alloc_new w2 _)) (by simp [Value.oneCell']) (by unfold maxLen; omega) (by omega) ?_
      intro a' c' w3 hown hgrow hat
      have hX := (unhide HT1).pm.heldOn (p := ⟨k, f.br, size, r, -1, false, false⟩) (upd_same _ _ _) (bel_one _) (by unfold hcs; rw [unhide HRdy]; exact hown) (by rw [← unhide HVh] at hgrow; exact hgrow) (fun g' hg' => by rw [← unhide HVh] at hat; exact (hat g' hg').imp id (fun e => by rw [World.size_alloc] at e; omega))
      have e14 := hX.1.cell (j := 14) rfl
      have z14 := hX.1.frozen 14
      have hS3 : w3.cell? ⟨f.a, 12, none⟩ = some (.int .i64 f.br) ∧ w3.cell? ⟨s.Q, 0, none⟩ = some (.int .i64 s.now) := by
        refine ⟨hX.1.cell (j := 12) rfl, ?_⟩
        have := (unhide HT1).pm.inn.only hX.2.1 (fun e => by have e' : s.o s.Q = 8 + 2 * k := e; have o2 := (unhide HH).oQ; omega)
        exact this.cell (j := 0) rfl
      have HX := hide hX.2.2
      have hS4 := unhide HSp _ _ _ hX.2.2.pm rfl rfl (upd_same _ _ _) rfl rfl
      have HS4 := hide hS4
      refine hK.out _ _ hS3 (fun hHeld => ?_)
      clear hK K hX hown hgrow hat hS3 hS4
      (try go_frame)
      refine wpAnyH_take (i := 23) (v := ?_) rfl (by kernel_rfl) (by kernel_rfl) (by kernel_rfl) (fun _ _ _ h => h) (Or.inl ⟨by rfl, ?_⟩) (by assumption) ?_
      rotate_left
      · intro w hSw; (try dsimp only at hSw); go_simp; (try rfl)
      (try go_frame)
      refine wpAnyH_take (i := 24) (v := ?_) rfl (by kernel_rfl) (by kernel_rfl) (by kernel_rfl) (fun _ _ _ h => h) (Or.inl ⟨by rfl, ?_⟩) (by assumption) ?_
      rotate_left
      · intro w hSw; (try dsimp only at hSw); go_simp; (try rfl)
      (try go_frame)
      refine wpAnyH_ready (rs := [25]) (by kernel_rfl) (by simp) (AllReadyH.cons rfl (fun K hK => ?_) AllReadyH.nil)
      go_simp
      refine hK.out _ _ (unhide HS4) (fun hHeld => ?_)
      clear hK K
      refine wpAnyH_done (by kernel_rfl) ?_ _
      clear hHeld e14 z14
      have HT5 := hide (((unhide HT0).below (Below.refl _ _).drew).trans ((unhide HT1).trans (unhide HX)))
      rw [upd_upd] at HT5
      have b12 := (unhide HS4).1
      have z12 := ((unhide HT5).pm.fl k _ (upd_same _ _ _)).blk.frozen 12
      have HT6 := hide ((unhide HT5).trans ((unhide HT5).pm.setBr (upd_same _ _ _) (f.br + 1)))
      rw [upd_upd] at HT6
      have b13 := ((unhide HT6).pm.fl k _ (upd_same _ _ _)).c13
      have z13 := ((unhide HT6).pm.fl k _ (upd_same _ _ _)).blk.frozen 13
      have HT7 := hide ((unhide HT6).trans ((unhide HT6).pm.setWa (upd_same _ _ _) (f.wa + 1)))
      rw [upd_upd] at HT7
      clear HX HT0 HT1 HS4 HS2 HS2a d14c
      generalize (w3.setCell ⟨f.a, 14, none⟩ (.slice a' (f.L.length + 1) c')) = W4 at *
      have hw12 : IntKind.i64.wrap (f.br + 1) = f.br + 1 := by go_arith
      have hw13 : IntKind.i64.wrap (f.wa + 1) = f.wa + 1 := by go_arith
      go_wp2_with fail
      go_ret
      exact ⟨rfl, _, _, unhide HT7⟩
end Go.Proofs.YtcnmajndackohaaGreatDoor
/-
  Plain: a packet that is brought: the program's line and the document's.
-/
namespace Go.Proofs.YtcnmajndackohaaGreatDoor

section
variable {x : Ln} {s : PS} {rel : Int → Int}
theorem push_mem {x : Ln} {k size r : Int} {q : Pk} (h : q ∈ (x.push k size r).pk) : q ∈ x.pk ∨ q = ⟨k, x.seqOf k, size, r, -1, false, false⟩ := by
  have h' : q ∈ x.pk ++ [⟨k, x.seqOf k, size, r, -1, false, false⟩] := h
  rcases List.mem_append.1 h' with g | g
  · exact .inl g
  · exact .inr (List.mem_singleton.1 g)
theorem push_untold (h : Lnv x) (k size r : Int) : untoldL (x.push k size r).pk x.began = untoldL x.pk x.began := by
  unfold untoldL
  congr 1
  refine fm_congr _ _ _ fun i hi => ?_
  obtain ⟨p, hp, _⟩ := h.bg i hi
  have hl : i < x.pk.length := (List.getElem?_eq_some_iff.1 hp).1
  show (x.pk ++ [_])[i]? = x.pk[i]?
  rw [List.getElem?_append_left hl]
theorem push_seq (k size r j : Int) : (x.push k size r).seqOf j = x.seqOf j + if k = j then 1 else 0 := by
  unfold Ln.seqOf
  show (x.pk ++ [_]).countP _ = _
  rw [List.countP_append, List.countP_cons]
  by_cases g : k = j <;> simp [g]
theorem push_wait (k size r j : Int) : (x.push k size r).waiting j = x.waiting j + if k = j then 1 else 0 := by
  unfold Ln.waiting
  show (x.pk ++ [_]).countP _ = _
  rw [List.countP_append, List.countP_cons]
  by_cases g : k = j <;> simp [g]
theorem push_filter (c : Pk → Bool) (k size r : Int) : (x.push k size r).pk.filter c = x.pk.filter c ++ if c ⟨k, x.seqOf k, size, r, -1, false, false⟩ then [⟨k, x.seqOf k, size, r, -1, false, false⟩] else [] := by
  show (x.pk ++ [_]).filter c = _
  rw [List.filter_append, List.filter_cons]
  rfl
/-- What every packet that is brought leaves. -/
theorem Sim.pushed (h : Sim x s rel) {k size r : Int} (hod : ∃ B, Od (x.push k size r) B) (hk : 0 ≤ k → isOf x.fl k = 0) {s' : PS} (hn : s'.now = s.now) (hnum : s'.num = s.num) (hH : s'.H = s.H) (hG : s'.G = s.G)
    (hO : s'.O = s.O ++ if k = -1 then [⟨k, x.seqOf k, size, r, -1, false, false⟩] else []) (hbr : s'.br = s.br + if k = -1 then 1 else 0)
    (hdom : ∀ j, (∃ f, s'.fs j = some f) ↔ ∃ f, s.fs j = some f)
    (hval : ∀ j f, s'.fs j = some f → ∃ st, x.fl[j]? = some st ∧ f.f = st.f ∧ f.torn = decide (st.is = 1) ∧ f.br = (x.push k size r).seqOf j ∧ f.wa = (x.push k size r).waiting j ∧ f.L = (x.push k size r).pk.filter (hdB j (rel j)) ∧ Gok st.f j (x.push k size r).pk f.g) :
    Sim (x.push k size r) s' rel := by
  have hnq : quB rel ⟨k, x.seqOf k, size, r, -1, false, false⟩ = false := by
    rw [← Bool.not_eq_true, quB_iff]
    rintro ⟨_, _, g⟩
    have := h.rb k
    have g' : ((x.seqOf k : Nat) : Int) < rel k := g
    omega
  refine ⟨hod, ?_, ?_, ?_, ?_, ?_, h.is, hn.trans h.now, hnum.trans h.num, fun j => (hdom j).trans (h.dom j), hval, ?_, ?_, ?_, ?_⟩
  · intro q hq hx
    rcases push_mem hq with g | rfl
    · exact h.rr q g hx
    · rw [hnq] at hx; cases hx
  · intro q hq q0 qw qi
    rcases push_mem hq with g | rfl
    · exact h.lg q g q0 qw qi
    · have h1 : isOf x.fl k = 1 := qi
      rw [hk q0] at h1; cases h1
  · intro q hq q0 qw
    rcases push_mem hq with g | rfl
    · exact h.aw q g q0 qw
    · show isOf x.fl k < 2
      rw [hk q0]; decide
  · intro q hq qt
    rcases push_mem hq with g | rfl
    · exact h.tl q g qt
    · cases qt
  · intro j
    have := h.rb j
    rw [push_seq]
    omega
  · rw [hH]
    show s.H.Perm (((x.push k size r).pk.filter (quB rel)).map fun p => enP p (dueOf x.fl p.flow))
    rw [push_filter, hnq]
    simpa using h.H
  · rw [hO, push_filter, ← h.O]
    have : othB ⟨k, x.seqOf k, size, r, -1, false, false⟩ = decide (k = -1) := by unfold othB wt; simp
    rw [this]
    by_cases g : k = -1 <;> simp [g]
  · rw [hbr, push_seq, h.br]
    by_cases g : k = -1 <;> simp [g]
  · rw [hG, h.G]
    exact (push_untold h.inv k size r).symm
theorem Gok.gte {f : Fl} (hf : f.may) {k : Int} {pk : List Pk} {g : Gt} (h : Gok f k pk g) {m : Int} (m0 : 0 ≤ m) (hm : ∀ p ∈ pk, p.ready ≤ m) (m1 : m ≤ 50000000000000000) : Gte g := by
  intro hn
  obtain ⟨s0, s1, b0, b1, r0, p0, p1, _, _⟩ := hf
  have hP := h.peak hn
  have hB := h.burst hn
  have hl := h.lat hn
  refine ⟨⟨⟨hP.2.2.1, ?_, ?_, ?_, ?_⟩, ⟨hB.2.2.1, ?_, ?_, ?_, ?_⟩, hl.1⟩, ?_⟩
  · rw [hP.1]; exact hP.le
  · rw [hP.1]; omega
  · rw [hP.2.1]; omega
  · rw [hP.2.1]; omega
  · rw [hB.1]; exact hB.le
  · rw [hB.1]; omega
  · rw [hB.2.1]; omega
  · rw [hB.2.1]; omega
  · have h1 := hl.2 0 (Int.le_refl _)
    have h2 := latest_bd k pk 0 m0 hm
    omega
theorem Sim.alive (h : Sim x s rel) {k : Nat} {f : FS} (hf : s.fs k = some f) (ht : f.torn = false) : ∃ st, x.fl[k]? = some st ∧ f.f = st.f ∧ st.is = 0 := by
  obtain ⟨st, e1, e2, e3, _⟩ := h.val k f hf
  obtain ⟨st', e4, e5⟩ := (h.dom k).1 ⟨f, hf⟩
  rw [e1] at e4
  obtain rfl := Option.some.inj e4
  refine ⟨st, e1, e2, ?_⟩
  have h1 : ¬ st.is = 1 := by rw [ht] at e3; simpa using e3.symm
  rcases h.is st (List.mem_of_getElem? e1) with g | g | g
  · exact g
  · exact absurd g h1
  · omega
/-- A packet of a flow: its gate. -/
theorem Sim.pass (h : Sim x s rel) (b : Lbn x) {k : Nat} {f : FS} (hf : s.fs k = some f) {size : Int} (h1 : 1 ≤ size) (h2 : size ≤ f.f.s) :
    Gte f.g ∧ (f.g.pass s.now size).1 = toTick (x.readyAt f.f k size) ∧ Gok f.f k (x.pk ++ [⟨k, x.seqOf k, size, x.readyAt f.f k size, -1, false, false⟩]) (f.g.pass s.now size).2 := by
  obtain ⟨st, e1, e2, _, _, _, _, e7⟩ := h.val k f hf
  have hmay := h.inv.may st (List.mem_of_getElem? e1)
  rw [← e2] at hmay e7
  have hg := e7.gte hmay (m := 100000000000) (by omega) b.rd (by omega)
  have hn0 := h.inv.n0
  have hn1 := b.now
  rw [h.now]
  have hp := e7.pass hmay hn0 (by omega) (fun hn => by have := (hg hn).2; omega) h1 h2 (r := x.readyAt f.f k size) rfl (p := ⟨k, x.seqOf k, size, x.readyAt f.f k size, -1, false, false⟩) rfl
  exact ⟨hg, hp.1, hp.2.1⟩
/-- A packet of a flow. -/
theorem Sim.send (h : Sim x s rel) (b : Lbn x) {k : Nat} {f : FS} (hf : s.fs k = some f) (ht : f.torn = false) {size : Int} (h1 : 1 ≤ size) (h2 : size ≤ f.f.s) (v : Value) (o : Whose) (hod : ∃ B, Od (x.push k size (x.readyAt f.f k size)) B) :
    Sim (x.push k size (x.readyAt f.f k size)) { s with fs := upd s.fs k (f.sent v s.now size (x.readyAt f.f k size) k), o := o } rel := by
  obtain ⟨hg, hp1, hp2⟩ := h.pass b hf h1 h2
  obtain ⟨st0, e0, _, ei⟩ := h.alive hf ht
  refine h.pushed hod (fun _ => by rw [is_at e0]; exact ei) rfl rfl rfl rfl ?_ ?_ ?_ ?_
  · show s.O = _
    rw [if_neg (by omega), List.append_nil]
  · show s.br = _
    rw [if_neg (by omega)]; omega
  · intro j
    show (∃ g, upd s.fs k _ j = some g) ↔ _
    by_cases e : j = k
    · subst e; rw [upd_same]; exact ⟨fun _ => ⟨f, hf⟩, fun _ => ⟨_, rfl⟩⟩
    · rw [upd_far _ _ e]
  · intro j g hg'
    have hg2 : upd s.fs k _ j = some g := hg'
    by_cases e : j = k
    · subst e
      rw [upd_same] at hg2
      obtain rfl := Option.some.inj hg2
      obtain ⟨st, q1, q2, q3, q4, q5, q6, q7⟩ := h.val j f hf
      refine ⟨st, q1, q2, q3, ?_, ?_, ?_, ?_⟩
      · show f.br + 1 = _
        rw [push_seq, if_pos rfl, q4]; omega
      · show f.wa + 1 = _
        rw [push_wait, if_pos rfl, q5]; omega
      · show f.L ++ [⟨j, f.br, size, x.readyAt f.f j size, -1, false, false⟩] = _
        rw [push_filter, q6, q4]
        have : hdB j (rel j) ⟨j, x.seqOf j, size, x.readyAt f.f j size, -1, false, false⟩ = true := (hdB_iff _ _ _).2 ⟨rfl, rfl, h.rb j⟩
        rw [if_pos this]
      · rw [← q2]; exact hp2
    · rw [upd_far _ _ e] at hg2
      obtain ⟨st, q1, q2, q3, q4, q5, q6, q7⟩ := h.val j g hg2
      have hne : ¬ (k : Int) = (j : Int) := fun c => e (by omega)
      refine ⟨st, q1, q2, q3, ?_, ?_, ?_, q7.other hne⟩
      · rw [push_seq, if_neg hne, q4]; rfl
      · rw [push_wait, if_neg hne, q5]; rfl
      · rw [push_filter, if_neg, List.append_nil]
        · exact q6
        · rw [hdB_iff]; exact fun c => hne c.1
/-- One of none. -/
theorem Sim.other (h : Sim x s rel) {size : Int} (v : Value) (o : Whose) (hod : ∃ B, Od (x.push (-1) size x.now) B) :
    Sim (x.push (-1) size x.now) { s with vo := v, O := s.O ++ [⟨-1, s.br, size, s.now, -1, false, false⟩], br := s.br + 1, o := o } rel := by
  refine h.pushed hod (fun c => by omega) rfl rfl rfl rfl ?_ ?_ (fun j => Iff.rfl) ?_
  · show s.O ++ [_] = _
    rw [if_pos rfl, h.br, h.now]
  · show s.br + 1 = _
    rw [if_pos rfl]
  · intro j g hg
    obtain ⟨st, q1, q2, q3, q4, q5, q6, q7⟩ := h.val j g hg
    have hne : ¬ (-1 : Int) = (j : Int) := by omega
    refine ⟨st, q1, q2, q3, ?_, ?_, ?_, q7.other hne⟩
    · rw [push_seq, if_neg hne, q4]; rfl
    · rw [push_wait, if_neg hne, q5]; rfl
    · rw [push_filter, if_neg, List.append_nil]
      · exact q6
      · rw [hdB_iff]; exact fun c => hne c.1
end
end Go.Proofs.YtcnmajndackohaaGreatDoor
/-
  What the program's Other does.
-/
namespace Go.Proofs.YtcnmajndackohaaGreatDoor
open Go.RowKit
attribute [local go_sem ↓] Go.wp_at_zero Go.wp_at_succ

/-- One more of none. -/
theorem PM.otherOn {w w1 w2 : World} {P : Nat} {s : PS} {v' : Value} {p : Pk} (h : PM w P s) (hb : Below w.heap.size w w1) (hown : World.offRow w2 118 4 v' (s.O.length + 1) (hcells s.O ++ hcs p)) (hgrow : w1.grownBy w2 s.vo.ownBlock) (hat : ∀ g, v'.ownBlock = some g → s.vo.ownBlock = some g ∨ w.heap.size ≤ g) :
    Is w2 s.Q 116 s.cs ∧ PTo w P s (w2.setCell ⟨s.Q, 4, none⟩ v') { s with vo := v', O := s.O ++ [p], o := s.o.give w.heap.size w2.heap.size 5 } := by
  have hO1 : Only (fun i => s.o i = 5) w w2 := (Only.of_below hb).grown hgrow (fun k e _ => h.ot.2 k e)
  have hI : Is w2 s.Q 116 s.cs := h.inn.only hO1 (fun e => by rw [h.oQ] at e; cases e)
  have hO : Only (fun i => s.o i = 2 ∨ s.o i = 5) w (w2.setCell ⟨s.Q, 4, none⟩ v') := (hO1.mono fun i _ e => .inr e).setCell (.inl (.inl h.oQ))
  have hg : ∀ i, i < w.heap.size → (s.o.give w.heap.size w2.heap.size 5) i = s.o i := fun i hi => give_old hi
  have hsz : (w2.setCell ⟨s.Q, 4, none⟩ v').heap.size = w2.heap.size := by simp
  have hvQ : ∀ g, v'.ownBlock = some g → g ≠ s.Q := fun g hg' e => by
    rcases hat g hg' with k | k
    · have := h.ot.2 g k; rw [e, h.oQ] at this; cases this
    · have := h.inn.lt; omega
  refine ⟨hI, h.ownTo (c := 5) (.inr (.inr (.inl rfl))) hO hg ?_ rfl rfl rfl (hI.set 4 v') (h.rd.keep h.ord hO (fun i e => by omega)) (fun g hg' => (hg g (h.rd.lt g hg')).trans (h.ord g hg')) ?_ (h.be.keep hO (fun i e => by omega) hg) h.hp, hO.mono fun i _ e => by omega, hg, rfl⟩
  · have := give_free (c := 5) h.free hO1.size
    exact fun i hi => this i (by omega)
  · refine ⟨?_, fun g hg' => ?_⟩
    · show World.offRow _ _ 4 v' (s.O ++ [p]).length (hcells (s.O ++ [p]))
      rw [List.length_append, hcells_append]
      refine offRow_only (S := fun i => i = s.Q) ?_ (only_set _ _ _ _) (fun g hg' e => hvQ g hg' e)
      exact hown
    · rcases hat g hg' with k | k
      · exact (hg g (offRow_lt h.ot.1 g k)).trans (h.ot.2 g k)
      · exact give_new k (offRow_lt hown g hg')
set_option maxRecDepth 100000 in
set_option maxHeartbeats 4000000 in
theorem pother_bad (w : World) (P : Nat) (s : PS) (h : PM w P s) (size : Int) (hl : s.O.length ≤ 1000000000) (a : Nat → Addr) (a0 a1 b : Addr) (hg : GlA w a a0 a1)
    (hacc : ∀ W, GlA W a a0 a1 → Calls Tryz.prog 59 #[.int .i64 size, .int .i64 8, .int .i64 (s.O.length : Int)] W fun e w' => (∃ l, e = .returned (chn l b)) ∧ Below W.heap.size W w') :
    Calls Tryz.prog 40 #[.pointer (some ⟨s.Q, 0, none⟩), .int .i64 size] w fun e w' => (∃ l, e = .returned (chn l b)) ∧ Below w.heap.size w w' := by
  obtain ⟨ao, co, ho⟩ := h.otLen
  have c4 := h.c4
  rw [ho] at c4
  have HAc := hide (hacc w hg)
  have HX := hide (fun l W => in_chn { data := #[79, 116, 104, 101, 114] } l b W)
  have hll : (s.O.length : Int) ≤ 1000000000 := by omega
  clear h ho hg hacc
  go_enter Tryz.func40, Tryz.ntmps40
  go_wp2_with fail
  refine (unhide HAc).mono ?_
  rintro e w1 ⟨⟨l', rfl⟩, hb1⟩
  have HB1 := hide hb1
  obtain ⟨T, y, hy⟩ := chn_form l' b
  have HX1 := hide (unhide HX l' w1)
  rw [hy] at HX1 ⊢
  obtain ⟨E, HE⟩ : ∃ E, Hid (chn ({ data := #[79, 116, 104, 101, 114] } :: l') b = E) := ⟨_, hide rfl⟩
  rw [unhide HE] at HX1
  clear hb1 HAc HX hy
  go_wp2_with fail
  refine (unhide HX1).mono ?_
  rintro e w2 ⟨rfl, rfl⟩
  clear HX1
  go_wp2_with fail
  go_ret
  exact ⟨⟨_, ret_val (unhide HE).symm⟩, unhide HB1⟩
set_option maxRecDepth 100000 in
set_option maxHeartbeats 8000000 in
theorem pother_ok (w : World) (P : Nat) (s : PS) (h : PM w P s) (size : Int) (h1 : 1 ≤ size) (h2 : size ≤ 8) (h3 : (s.O.length : Int) < 40) (n0 : 0 ≤ s.now) (hb0 : 0 ≤ s.br) (hb1 : s.br ≤ 1000000000000) :
    Calls Tryz.prog 40 #[.pointer (some ⟨s.Q, 0, none⟩), .int .i64 size] w fun e w' => e = .returned .nilIface ∧ ∃ v' o', PTo w P s w' { s with vo := v', O := s.O ++ [⟨-1, s.br, size, s.now, -1, false, false⟩], br := s.br + 1, o := o' } := by
  obtain ⟨ao, co, ho⟩ := h.otLen
  have c4 := h.c4
  rw [ho] at c4
  have HAc := hide (fun W => accept_ok size 8 (s.O.length : Int) W h1 h2 h3)
  have HH := hide h
  have HV := hide ho
  obtain ⟨i0, hi0, hz0, hz1, hz2⟩ := info_five infoPkt
  have HI0 := hide hi0
  have HZ0 := hide hz0
  have HZ1 := hide hz1
  have HZ2 := hide hz2
  have c0 := h.c0
  have c5 := h.c5
  have hQ := h.inn.lt
  have c4A := fun ob => (World.cell?_alloc_past (w := w) ob s.Q 4 hQ).trans c4
  have HSB := hide (show ∀ w', Below w.heap.size w w' → w'.cell? ⟨s.Q, 5, none⟩ = some (.int .i64 s.br) ∧ w'.cell? ⟨s.Q, 0, none⟩ = some (.int .i64 s.now) from fun w' hb => ⟨(h.below hb).c5, (h.below hb).c0⟩)
  have hrd : toTick s.now = s.now := toTick_of n0
  have HRd := hide hrd
  clear h ho hi0 hz0 hz1 hz2 hrd
  go_enter Tryz.func40, Tryz.ntmps40
  go_wp2_with fail
  refine (unhide HAc _).mono ?_
  rintro e w1 ⟨rfl, rfl⟩
  clear HAc
  go_wp2_with fail
  refine wp_region_held_drew (S := (fun w' : World => w'.cell? ⟨s.Q, 5, none⟩ = some (.int .i64 s.br) ∧ w'.cell? ⟨s.Q, 0, none⟩ = some (.int .i64 s.now))) (by kernel_rfl) (unhide HSB _ (Below.refl _ _).drew) (fun hHeld => ?_)
  refine wpAnyH_take (i := 0) (v := ?_) rfl (by kernel_rfl) (by kernel_rfl) (by kernel_rfl) (fun _ _ _ h => h) (Or.inl ⟨by rfl, ?_⟩) (by assumption) ?_
  rotate_left
  · intro w hSw; (try dsimp only at hSw); go_simp; (try rfl)
  (try go_frame)
  refine wpAnyH_take (i := 1) (v := ?_) rfl (by kernel_rfl) (by kernel_rfl) (by kernel_rfl) (fun _ _ _ h => h) (Or.inl ⟨by rfl, ?_⟩) (by assumption) ?_
  rotate_left
  · intro w hSw; (try dsimp only at hSw); go_simp; (try rfl)
  (try go_frame)
  refine wpAnyH_take (i := 2) (v := ?_) rfl (by kernel_rfl) (by kernel_rfl) (by kernel_rfl) (fun _ _ _ h => h) (Or.inl ⟨by rfl, ?_⟩) (by assumption) ?_
  rotate_left
  · intro w hSw; (try dsimp only at hSw); go_simp; (try rfl)
  (try go_frame)
  refine wpAnyH_take (i := 3) (v := ?_) rfl (by kernel_rfl) (by kernel_rfl) (by kernel_rfl) (fun _ _ _ h => h) (Or.inl ⟨by rfl, ?_⟩) (by assumption) ?_
  rotate_left
  · intro w hSw; (try dsimp only at hSw); go_simp; (try rfl)
  (try go_frame)
  refine wpAnyH_take (i := 5) (v := ?_) rfl (by kernel_rfl) (by kernel_rfl) (by kernel_rfl) (fun _ _ _ h => h) (Or.inl ⟨by rfl, ?_⟩) (by assumption) ?_
  rotate_left
  · intro w hSw; (try dsimp only at hSw); go_simp; (try rfl)
  (try go_frame)
  refine wpAnyH_take (i := 6) (v := ?_) rfl (by kernel_rfl) (by kernel_rfl) (by kernel_rfl) (fun _ _ _ h => h) (Or.inl ⟨by rfl, ?_⟩) (by assumption) ?_
  rotate_left
  · intro w hSw; (try dsimp only at hSw); go_simp; (try rfl)
  (try go_frame)
  refine wpAnyH_take (i := 7) (v := ?_) rfl (by kernel_rfl) (by kernel_rfl) (by kernel_rfl) (fun _ _ _ h => h) (Or.inl ⟨by rfl, ?_⟩) (by assumption) ?_
  rotate_left
  · intro w hSw; (try dsimp only at hSw); go_simp; (try rfl)
  (try go_frame)
  refine wpAnyH_take (i := 8) (v := ?_) rfl (by kernel_rfl) (by kernel_rfl) (by kernel_rfl) (fun _ _ _ h => h) (Or.inl ⟨by rfl, ?_⟩) (by assumption) ?_
  rotate_left
  · intro w hSw; (try dsimp only at hSw); go_simp; (try rfl)
  (try go_frame)
  refine wpAnyH_take (i := 9) (v := ?_) rfl (by kernel_rfl) (by kernel_rfl) (by kernel_rfl) (fun _ _ _ h => h) (Or.inl ⟨by rfl, ?_⟩) (by assumption) ?_
  rotate_left
  · intro w hSw; (try dsimp only at hSw); go_simp; (try rfl)
  (try go_frame)
  refine wpAnyH_take (i := 10) (v := ?_) rfl (by kernel_rfl) (by kernel_rfl) (by kernel_rfl) (fun _ _ _ h => h) (Or.inl ⟨by rfl, ?_⟩) (by assumption) ?_
  rotate_left
  · intro w hSw; (try dsimp only at hSw); go_simp; (try rfl)
  (try go_frame)
  refine wpAnyH_take (i := 11) (v := ?_) rfl (by kernel_rfl) (by kernel_rfl) (by kernel_rfl) (fun _ _ _ h => h) (Or.inl ⟨by rfl, ?_⟩) (by assumption) ?_
  rotate_left
  · intro w hSw; (try dsimp only at hSw); go_simp; (try rfl)
  (try go_frame)
  refine wpAnyH_take (i := 12) (v := ?_) rfl (by kernel_rfl) (by kernel_rfl) (by kernel_rfl) (fun _ _ _ h => h) (Or.inl ⟨by rfl, ?_⟩) (by assumption) ?_
  rotate_left
  · intro w hSw; (try dsimp only at hSw); go_simp; (try rfl)
  (try go_frame)
  refine wpAnyH_take (i := 13) (v := ?_) rfl (by kernel_rfl) (by kernel_rfl) (by kernel_rfl) (fun _ _ _ h => h) (Or.inl ⟨by rfl, ?_⟩) (by assumption) ?_
  rotate_left
  · intro w hSw; (try dsimp only at hSw); go_simp; (try rfl)
  (try go_frame)
  refine wpAnyH_take (i := 14) (v := ?_) rfl (by kernel_rfl) (by kernel_rfl) (by kernel_rfl) (fun _ _ _ h => h) (Or.inl ⟨by rfl, ?_⟩) (by assumption) ?_
  rotate_left
  · intro w hSw; (try dsimp only at hSw); go_simp; (try rfl)
  (try go_frame)
  refine wpAnyH_ready (rs := [4, 15]) (by kernel_rfl) (by simp) (AllReadyH.cons rfl (fun K hK => ?_) (AllReadyH.cons rfl (fun K hK => ?_) AllReadyH.nil))
  · go_simp
    refine hK.out _ _ (unhide HSB _ ((Below.refl _ _).drew)) (fun hHeld => ?_)
    clear hK K
    (try go_frame)
    refine wpAnyH_ready (rs := [15]) (by kernel_rfl) (by simp) (AllReadyH.cons rfl (fun K hK => ?_) AllReadyH.nil)
    go_simp
    refine hK.out _ _ (unhide HSB _ ((bel_one _).drew)) (fun hHeld => ?_)
    clear hK K
    (try go_frame)
    refine wpAnyH_ready (rs := [16]) (by kernel_rfl) (by simp) (AllReadyH.cons rfl (fun K hK => ?_) AllReadyH.nil)
    refine step_append_off _ rfl (.tmp 21) (.tmp 32) 114 rfl 118 i0 _ 4 32 Tryz.underlying114 (unhide HI0) (unhide HZ0) (unhide HZ1) (unhide HZ2) rfl (by omega) (.slice ao s.O.length co) s.O.length (hcells s.O) (by rfl) (offRow_bel (by have := (unhide HH).ot.1; rw [← unhide HV]; exact this) (bel_one _).drew) ⟨w1.heap.size, 0, none⟩ 1 1 [.int .i64 (-1), .int .i64 s.br, .int .i64 size, .int .i64 s.now] (by rfl) (by rfl) (World.news_of_block (cs := #[.int .i64 (-1), .int .i64 s.br, .int .i64 size, .int .i64 s.now]) (t := 118) (fr := (0, 0)) (heap_alloc_new w1 _)) (by simp [Value.oneCell']) (by unfold maxLen; omega) (by omega) ?_
    intro a' c' w3 hown hgrow hat
    have hX := (unhide HH).otherOn (p := ⟨-1, s.br, size, s.now, -1, false, false⟩) ((bel_one _).drew) (by unfold hcs; rw [unhide HRd]; exact hown) (by rw [← unhide HV] at hgrow; exact hgrow) (fun g' hg' => by rw [← unhide HV] at hat; exact (hat g' hg').imp id (fun e => by have e' : (w1.alloc _).heap.size ≤ g' := e; rw [World.size_alloc] at e'; omega))
    have e4 := hX.1.cell (j := 4) rfl
    have z4 := hX.1.frozen 4
    have hS3 : w3.cell? ⟨s.Q, 5, none⟩ = some (.int .i64 s.br) ∧ w3.cell? ⟨s.Q, 0, none⟩ = some (.int .i64 s.now) := ⟨hX.1.cell (j := 5) rfl, hX.1.cell (j := 0) rfl⟩
    have HX := hide hX.2
    have HS4 := hide (show (w3.setCell ⟨s.Q, 4, none⟩ (.slice a' (s.O.length + 1) c')).cell? ⟨s.Q, 5, none⟩ = some (.int .i64 s.br) ∧ (w3.setCell ⟨s.Q, 4, none⟩ (.slice a' (s.O.length + 1) c')).cell? ⟨s.Q, 0, none⟩ = some (.int .i64 s.now) from ⟨hX.2.pm.c5, hX.2.pm.c0⟩)
    refine hK.out _ _ hS3 (fun hHeld => ?_)
    clear hK K hX hown hgrow hat hS3
    (try go_frame)
    refine wpAnyH_take (i := 17) (v := ?_) rfl (by kernel_rfl) (by kernel_rfl) (by kernel_rfl) (fun _ _ _ h => h) (Or.inl ⟨by rfl, ?_⟩) (by assumption) ?_
    rotate_left
    · intro w hSw; (try dsimp only at hSw); go_simp; (try rfl)
    (try go_frame)
    refine wpAnyH_take (i := 18) (v := ?_) rfl (by kernel_rfl) (by kernel_rfl) (by kernel_rfl) (fun _ _ _ h => h) (Or.inl ⟨by rfl, ?_⟩) (by assumption) ?_
    rotate_left
    · intro w hSw; (try dsimp only at hSw); go_simp; (try rfl)
    (try go_frame)
    refine wpAnyH_ready (rs := [19]) (by kernel_rfl) (by simp) (AllReadyH.cons rfl (fun K hK => ?_) AllReadyH.nil)
    go_simp
    refine hK.out _ _ (unhide HS4) (fun hHeld => ?_)
    clear hK K
    refine wpAnyH_done (by kernel_rfl) ?_ _
    clear hHeld e4 z4
    have b5 := (unhide HS4).1
    have z5 := (unhide HX).pm.inn.frozen 5
    have HT6 := hide ((unhide HX).trans ((unhide HX).pm.setQ (s' := { s with vo := .slice a' (s.O.length + 1) c', O := s.O ++ [⟨-1, s.br, size, s.now, -1, false, false⟩], br := s.br + 1, o := s.o.give w1.heap.size w3.heap.size 5 }) 5 (.int .i64 (s.br + 1)) rfl rfl rfl rfl rfl (unhide HX).pm.rd (unhide HX).pm.ord (unhide HX).pm.ot (unhide HX).pm.be (unhide HX).pm.hp))
    clear HX HS4 HSB c0 c5 c4 c4A
    generalize (w3.setCell ⟨s.Q, 4, none⟩ (.slice a' (s.O.length + 1) c')) = W4 at *
    have hw12 : IntKind.i64.wrap (s.br + 1) = s.br + 1 := by go_arith
    go_wp2_with fail
    go_ret
    exact ⟨rfl, _, _, unhide HT6⟩
  · go_simp
    refine hK.out _ _ (unhide HSB _ ((bel_one _).drew)) (fun hHeld => ?_)
    clear hK K
    (try go_frame)
    refine wpAnyH_ready (rs := [4]) (by kernel_rfl) (by simp) (AllReadyH.cons rfl (fun K hK => ?_) AllReadyH.nil)
    go_simp
    refine hK.out _ _ (unhide HSB _ ((bel_one _).drew)) (fun hHeld => ?_)
    clear hK K
    (try go_frame)
    refine wpAnyH_ready (rs := [16]) (by kernel_rfl) (by simp) (AllReadyH.cons rfl (fun K hK => ?_) AllReadyH.nil)
    refine step_append_off _ rfl (.tmp 21) (.tmp 32) 114 rfl 118 i0 _ 4 32 Tryz.underlying114 (unhide HI0) (unhide HZ0) (unhide HZ1) (unhide HZ2) rfl (by omega) (.slice ao s.O.length co) s.O.length (hcells s.O) (by rfl) (offRow_bel (by have := (unhide HH).ot.1; rw [← unhide HV]; exact this) (bel_one _).drew) ⟨w1.heap.size, 0, none⟩ 1 1 [.int .i64 (-1), .int .i64 s.br, .int .i64 size, .int .i64 s.now] (by rfl) (by rfl) (World.news_of_block (cs := #[.int .i64 (-1), .int .i64 s.br, .int .i64 size, .int .i64 s.now]) (t := 118) (fr := (0, 0)) (heap_alloc_new w1 _)) (by simp [Value.oneCell']) (by unfold maxLen; omega) (by omega) ?_
    intro a' c' w3 hown hgrow hat
    have hX := (unhide HH).otherOn (p := ⟨-1, s.br, size, s.now, -1, false, false⟩) ((bel_one _).drew) (by unfold hcs; rw [unhide HRd]; exact hown) (by rw [← unhide HV] at hgrow; exact hgrow) (fun g' hg' => by rw [← unhide HV] at hat; exact (hat g' hg').imp id (fun e => by have e' : (w1.alloc _).heap.size ≤ g' := e; rw [World.size_alloc] at e'; omega))
    have e4 := hX.1.cell (j := 4) rfl
    have z4 := hX.1.frozen 4
    have hS3 : w3.cell? ⟨s.Q, 5, none⟩ = some (.int .i64 s.br) ∧ w3.cell? ⟨s.Q, 0, none⟩ = some (.int .i64 s.now) := ⟨hX.1.cell (j := 5) rfl, hX.1.cell (j := 0) rfl⟩
    have HX := hide hX.2
    have HS4 := hide (show (w3.setCell ⟨s.Q, 4, none⟩ (.slice a' (s.O.length + 1) c')).cell? ⟨s.Q, 5, none⟩ = some (.int .i64 s.br) ∧ (w3.setCell ⟨s.Q, 4, none⟩ (.slice a' (s.O.length + 1) c')).cell? ⟨s.Q, 0, none⟩ = some (.int .i64 s.now) from ⟨hX.2.pm.c5, hX.2.pm.c0⟩)
    refine hK.out _ _ hS3 (fun hHeld => ?_)
    clear hK K hX hown hgrow hat hS3
    (try go_frame)
    refine wpAnyH_take (i := 17) (v := ?_) rfl (by kernel_rfl) (by kernel_rfl) (by kernel_rfl) (fun _ _ _ h => h) (Or.inl ⟨by rfl, ?_⟩) (by assumption) ?_
    rotate_left
    · intro w hSw; (try dsimp only at hSw); go_simp; (try rfl)
    (try go_frame)
    refine wpAnyH_take (i := 18) (v := ?_) rfl (by kernel_rfl) (by kernel_rfl) (by kernel_rfl) (fun _ _ _ h => h) (Or.inl ⟨by rfl, ?_⟩) (by assumption) ?_
    rotate_left
    · intro w hSw; (try dsimp only at hSw); go_simp; (try rfl)
    (try go_frame)
    refine wpAnyH_ready (rs := [19]) (by kernel_rfl) (by simp) (AllReadyH.cons rfl (fun K hK => ?_) AllReadyH.nil)
    go_simp
    refine hK.out _ _ (unhide HS4) (fun hHeld => ?_)
    clear hK K
    refine wpAnyH_done (by kernel_rfl) ?_ _
    clear hHeld e4 z4
    have b5 := (unhide HS4).1
    have z5 := (unhide HX).pm.inn.frozen 5
    have HT6 := hide ((unhide HX).trans ((unhide HX).pm.setQ (s' := { s with vo := .slice a' (s.O.length + 1) c', O := s.O ++ [⟨-1, s.br, size, s.now, -1, false, false⟩], br := s.br + 1, o := s.o.give w1.heap.size w3.heap.size 5 }) 5 (.int .i64 (s.br + 1)) rfl rfl rfl rfl rfl (unhide HX).pm.rd (unhide HX).pm.ord (unhide HX).pm.ot (unhide HX).pm.be (unhide HX).pm.hp))
    clear HX HS4 HSB c0 c5 c4 c4A
    generalize (w3.setCell ⟨s.Q, 4, none⟩ (.slice a' (s.O.length + 1) c')) = W4 at *
    have hw12 : IntKind.i64.wrap (s.br + 1) = s.br + 1 := by go_arith
    go_wp2_with fail
    go_ret
    exact ⟨rfl, _, _, unhide HT6⟩
end Go.Proofs.YtcnmajndackohaaGreatDoor
