import Derived.Test.YtcnmajndackohaaGreatDoorMg43
import Derived.Deep.CutRange
/-
  What the document's Look tells.
-/
namespace Go.Proofs.YtcnmajndackohaaGreatDoor
open Go.RowKit
attribute [local go_sem ↓] Go.wp_at_zero Go.wp_at_succ
theorem Rk.start {w wx : World} {b : Nat} {x : Ln} (hb : w.heap.size < b) (hB : Below w.heap.size w wx) (hI : Is wx b 84 #[.int .i64 x.now, .slice none 0 0, .slice none 0 0, .int .i64 0, .int .i64 (x.waiting (-1) : Int), .bool x.busy]) (hr : Is wx w.heap.size 84 vzero) : Rk w wx b x 0 0 0 (.slice none 0 0) (.slice none 0 0) :=
  ⟨hb, hB, hI, hr, World.ownsRow_nil _ _ _ _, World.ownsRow_nil _ _ _ _, (fun g e => by cases e)⟩
set_option maxRecDepth 100000 in
set_option maxHeartbeats 4000000 in
theorem rlook_any (w : World) (P : Nat) (x : Ln) (o : Whose) (vf vp vb : Value) (h : RefV w P x o vf vp vb) (hL : Lbd x) (hv : Lnv x) (hfl : x.fl.length ≤ 1500000) :
    Calls Tryz.prog 108 #[.pointer (some ⟨P, 0, none⟩)] w fun e w' => ∃ vl vs, e = .returned (.agg #[.int .i64 x.now, vl, vs, .int .i64 (x.waits : Int), .int .i64 (x.waiting (-1) : Int), .bool x.busy]) ∧
      w'.ownsRow w.heap.size 3 1 vl (x.ids 0).length (icells (nats (x.ids 0))) ∧ w'.ownsRow w.heap.size 3 1 vs (x.ids 1).length (icells (nats (x.ids 1))) ∧ Below w.heap.size w w' := by
  obtain ⟨i1, hi1, hy0, hy1, hy2⟩ := info_anyR infoIntW
  have HI1 := hide hi1
  have HY0 := hide hy0
  have HY1 := hide hy1
  have HY2 := hide hy2
  have HV := hide h
  have HWs := hide (waits_sum hv)
  have HBz := hide (fun (W : World) (hb : Below w.heap.size w W) => rbusy_any W P x _ vf vp vb (h.below hb) hL.toPlc hL.sm)
  have HWa := hide (fun (W : World) (k : Int) (hb : Below w.heap.size w W) => rwaiting_any W P x _ vf vp vb k (h.below hb) (by have := hL.pl; omega))
  have HSB := hide (fun (W : World) (hb : Below w.heap.size w W) => show W.cell? ⟨P, 0, none⟩ = some (.int .i64 x.now) from (h.below hb).blk.cell (j := 0) rfl)
  have hwl : ∀ k : Int, (x.waiting k : Int) ≤ 100000000 := fun k => by
    have h1 : x.waiting k ≤ x.pk.length := List.countP_le_length
    have := hL.pl
    omega
  have HWl := hide hwl
  clear h hL hv hi1 hy0 hy1 hy2
  go_enter Tryz.func108, Tryz.ntmps108
  go_upto_region 1 with fail
  go_cut [3] (fun v wx => ∃ b, v = .pointer (some ⟨b, 0, none⟩) ∧ Rk w wx b x 0 0 0 (.slice none 0 0) (.slice none 0 0))
  case first =>
    refine wp_region_held_drew (S := (fun w' : World => w'.cell? ⟨P, 0, none⟩ = some (.int .i64 x.now))) (by kernel_rfl) (unhide HSB _ (bel_one _).drew) (fun hHeld => ?_)
    refine wpAnyH_take (i := 0) (v := ?_) rfl (by kernel_rfl) (by kernel_rfl) (by kernel_rfl) (fun _ _ _ h => h) (Or.inl ⟨by rfl, ?_⟩) (by assumption) ?_
    rotate_left
    · intro w hSw; (try dsimp only at hSw); go_simp; (try rfl)
    (try go_frame)
    refine wpAnyH_take (i := 1) (v := ?_) rfl (by kernel_rfl) (by kernel_rfl) (by kernel_rfl) (fun _ _ _ h => h) (Or.inl ⟨by rfl, ?_⟩) (by assumption) ?_
    rotate_left
    · intro w hSw; (try dsimp only at hSw); go_simp; (try rfl)
    (try go_frame)
    refine wpAnyH_take (i := 2) (v := ?_) rfl (by kernel_rfl) (by kernel_rfl) (by kernel_rfl) (fun _ _ _ h => h) (Or.inl ⟨by rfl, ?_⟩) (by assumption) ?_
    rotate_left
    · intro w hSw; (try dsimp only at hSw); go_simp; (try rfl)
    (try go_frame)
    refine wpAnyH_take (i := 3) (v := ?_) rfl (by kernel_rfl) (by kernel_rfl) (by kernel_rfl) (fun _ _ _ h => h) (Or.inl ⟨by rfl, ?_⟩) (by assumption) ?_
    rotate_left
    · intro w hSw; (try dsimp only at hSw); go_simp; (try rfl)
    (try go_frame)
    refine wpAnyH_take (i := 4) (v := ?_) rfl (by kernel_rfl) (by kernel_rfl) (by kernel_rfl) (fun _ _ _ h => h) (Or.inl ⟨by rfl, ?_⟩) (by assumption) ?_
    rotate_left
    · intro w hSw; (try dsimp only at hSw); go_simp; (try rfl)
    (try go_frame)
    refine wpAnyH_take (i := 6) (v := ?_) rfl (by kernel_rfl) (by kernel_rfl) (by kernel_rfl) (fun _ _ _ h => h) (Or.inl ⟨by rfl, ?_⟩) (by assumption) ?_
    rotate_left
    · intro w hSw; (try dsimp only at hSw); go_simp; (try rfl)
    (try go_frame)
    refine wpAnyH_ready (rs := [5, 9]) (by kernel_rfl) (by simp) (AllReadyH.cons rfl (fun K hK => ?_) (AllReadyH.cons rfl (fun K hK => ?_) AllReadyH.nil))
    · go_simp
      refine (unhide HBz _ (bel_one _).drew).mono ?_
      rintro e w1 ⟨rfl, hb1⟩
      have HR1 := hide ((show Is (w.alloc (.cells vzero 84)).drew w.heap.size 84 vzero from (Is.new w _ _).drew).below hb1)
      have hs1 : w.heap.size < w1.heap.size := by have := (unhide HR1).lt; exact this
      have HB1 := hide (show Below w.heap.size w w1 from bel_then (bel_one (w := w) _).drew hb1)
      clear hb1
      go_simp
      refine hK.out _ _ (unhide HSB _ (unhide HB1)) (fun hHeld => ?_)
      clear hK K
      (try go_frame)
      refine wpAnyH_ready (rs := [7, 9]) (by kernel_rfl) (by simp) (AllReadyH.cons rfl (fun K hK => ?_) (AllReadyH.cons rfl (fun K hK => ?_) AllReadyH.nil))
      · go_simp
        refine (unhide HWa _ (-1) (unhide HB1)).mono ?_
        rintro e w2 ⟨rfl, hb2⟩
        have HR2 := hide ((unhide HR1).below hb2)
        have hs2 : w.heap.size < w2.heap.size := (unhide HR2).lt
        have HB2 := hide (bel_then (unhide HB1) hb2)
        clear hb2
        go_simp
        refine hK.out _ _ (unhide HSB _ (unhide HB2)) (fun hHeld => ?_)
        clear hK K
        (try go_frame)
        refine wpAnyH_take (i := 8) (v := ?_) rfl (by kernel_rfl) (by kernel_rfl) (by kernel_rfl) (fun _ _ _ h => h) (Or.inl ⟨by rfl, ?_⟩) (by assumption) ?_
        rotate_left
        · intro w hSw; (try dsimp only at hSw); go_simp; (try rfl)
        (try go_frame)
        refine wpAnyH_ready (rs := [9]) (by kernel_rfl) (by simp) (AllReadyH.cons rfl (fun K hK => ?_) AllReadyH.nil)
        go_simp
        refine hK.out _ _ (unhide HSB _ (bel_then (unhide HB2) (bel_one _))) (fun hHeld => ?_)
        clear hK K
        (try go_frame)
        refine wpAnyH_ready (rs := [10]) (by kernel_rfl) (by simp) (AllReadyH.cons rfl (fun K hK => ?_) AllReadyH.nil)
        go_simp
        refine hK.out _ _ (unhide HSB _ (bel_then (unhide HB2) (bel_one _))) (fun hHeld => ?_)
        clear hK K
        refine wpAnyH_done (by kernel_rfl) ?_ _
        clear hHeld
        go_wp2_with fail
        go_meet
        exact ⟨w2.heap.size, rfl, Rk.start hs2 (bel_then (unhide HB2) (bel_one _)) (Is.new _ _ _) ((unhide HR2).alloc _)⟩
      · go_simp
        refine hK.out _ _ (unhide HSB _ (bel_then (unhide HB1) (bel_one _))) (fun hHeld => ?_)
        clear hK K
        (try go_frame)
        refine wpAnyH_ready (rs := [7]) (by kernel_rfl) (by simp) (AllReadyH.cons rfl (fun K hK => ?_) AllReadyH.nil)
        go_simp
        refine (unhide HWa _ (-1) (bel_then (unhide HB1) (bel_one _))).mono ?_
        rintro e w2 ⟨rfl, hb2⟩
        have hI2 : Is w2 w1.heap.size 84 vzero := (Is.new w1 _ _).below hb2
        have HR2 := hide (((unhide HR1).alloc (.cells vzero 84)).below hb2)
        have HB2 := hide (bel_then (bel_then (unhide HB1) (bel_one (.cells vzero 84))) hb2)
        clear hb2
        have x0 : w2.cell? ⟨w1.heap.size, 0, none⟩ = some (.int .i64 0) := hI2.cell (j := 0) rfl
        have x1 : w2.cell? ⟨w1.heap.size, 1, none⟩ = some (.slice none 0 0) := hI2.cell (j := 1) rfl
        have x2 : w2.cell? ⟨w1.heap.size, 2, none⟩ = some (.slice none 0 0) := hI2.cell (j := 2) rfl
        have x3 : w2.cell? ⟨w1.heap.size, 3, none⟩ = some (.int .i64 0) := hI2.cell (j := 3) rfl
        have x4 : w2.cell? ⟨w1.heap.size, 4, none⟩ = some (.int .i64 0) := hI2.cell (j := 4) rfl
        have x5 : w2.cell? ⟨w1.heap.size, 5, none⟩ = some (.bool false) := hI2.cell (j := 5) rfl
        have z0 := hI2.frozen 0
        have z1 := hI2.frozen 1
        have z2 := hI2.frozen 2
        have z3 := hI2.frozen 3
        have z4 := hI2.frozen 4
        have z5 := hI2.frozen 5
        have HI2 := hide hI2
        clear hI2
        go_simp
        refine hK.out _ _ (unhide HSB _ (unhide HB2)) (fun hHeld => ?_)
        clear hK K
        (try go_frame)
        refine wpAnyH_take (i := 8) (v := ?_) rfl (by kernel_rfl) (by kernel_rfl) (by kernel_rfl) (fun _ _ _ h => h) (Or.inl ⟨by rfl, ?_⟩) (by assumption) ?_
        rotate_left
        · intro w hSw; (try dsimp only at hSw); go_simp; (try rfl)
        (try go_frame)
        refine wpAnyH_ready (rs := [10]) (by kernel_rfl) (by simp) (AllReadyH.cons rfl (fun K hK => ?_) AllReadyH.nil)
        go_simp
        have HO6 := hide (show Only (fun i => i = w1.heap.size) w2 ((((((w2.setCell ⟨w1.heap.size, 0, none⟩ (.int .i64 x.now)).setCell ⟨w1.heap.size, 1, none⟩ (.slice none 0 0)).setCell ⟨w1.heap.size, 2, none⟩ (.slice none 0 0)).setCell ⟨w1.heap.size, 3, none⟩ (.int .i64 0)).setCell ⟨w1.heap.size, 4, none⟩ (.int .i64 (x.waiting (-1) : Int))).setCell ⟨w1.heap.size, 5, none⟩ (.bool x.busy)) from ((((((Only.refl (fun i => i = w1.heap.size) w2).setCell (.inl rfl)).setCell (.inl rfl)).setCell (.inl rfl)).setCell (.inl rfl)).setCell (.inl rfl)).setCell (.inl rfl))
        refine hK.out _ _ (unhide HSB _ (bel_sets (unhide HB2) (unhide HO6) (by omega))) (fun hHeld => ?_)
        clear hK K
        refine wpAnyH_done (by kernel_rfl) ?_ _
        clear hHeld
        go_wp2_with fail
        go_meet
        exact ⟨w1.heap.size, rfl, Rk.start (by omega) (bel_sets (unhide HB2) (unhide HO6) (by omega)) (((((((unhide HI2).set 0 _).set 1 _).set 2 _).set 3 _).set 4 _).set 5 _) ((unhide HR2).only (unhide HO6) (by omega))⟩
    · go_simp
      refine hK.out _ _ (unhide HSB _ (bel_then (bel_one _) (bel_one _)).drew) (fun hHeld => ?_)
      clear hK K
      (try go_frame)
      refine wpAnyH_ready (rs := [5]) (by kernel_rfl) (by simp) (AllReadyH.cons rfl (fun K hK => ?_) AllReadyH.nil)
      go_simp
      refine (unhide HBz _ (bel_then (bel_one _) (bel_one _)).drew).mono ?_
      rintro e w1 ⟨rfl, hb1⟩
      have HI1b := hide ((show Is ((w.alloc (.cells vzero 84)).alloc (.cells vzero 84)).drew (w.heap.size + 1) 84 vzero from (is_new2 w 84 _ _).drew).below hb1)
      have HR1 := hide ((show Is ((w.alloc (.cells vzero 84)).alloc (.cells vzero 84)).drew w.heap.size 84 vzero from ((Is.new w _ _).alloc _).drew).below hb1)
      have HB1 := hide (show Below w.heap.size w w1 from bel_then (bel_then (bel_one (w := w) (.cells vzero 84)) (bel_one (.cells vzero 84))).drew hb1)
      clear hb1
      go_simp
      refine hK.out _ _ (unhide HSB _ (unhide HB1)) (fun hHeld => ?_)
      clear hK K
      (try go_frame)
      refine wpAnyH_ready (rs := [7]) (by kernel_rfl) (by simp) (AllReadyH.cons rfl (fun K hK => ?_) AllReadyH.nil)
      go_simp
      refine (unhide HWa _ (-1) (unhide HB1)).mono ?_
      rintro e w2 ⟨rfl, hb2⟩
      have hI2 := (unhide HI1b).below hb2
      have HR2 := hide ((unhide HR1).below hb2)
      have HB2 := hide (bel_then (unhide HB1) hb2)
      clear hb2 HI1b HR1
      have x0 : w2.cell? ⟨w.heap.size + 1, 0, none⟩ = some (.int .i64 0) := hI2.cell (j := 0) rfl
      have x1 : w2.cell? ⟨w.heap.size + 1, 1, none⟩ = some (.slice none 0 0) := hI2.cell (j := 1) rfl
      have x2 : w2.cell? ⟨w.heap.size + 1, 2, none⟩ = some (.slice none 0 0) := hI2.cell (j := 2) rfl
      have x3 : w2.cell? ⟨w.heap.size + 1, 3, none⟩ = some (.int .i64 0) := hI2.cell (j := 3) rfl
      have x4 : w2.cell? ⟨w.heap.size + 1, 4, none⟩ = some (.int .i64 0) := hI2.cell (j := 4) rfl
      have x5 : w2.cell? ⟨w.heap.size + 1, 5, none⟩ = some (.bool false) := hI2.cell (j := 5) rfl
      have z0 := hI2.frozen 0
      have z1 := hI2.frozen 1
      have z2 := hI2.frozen 2
      have z3 := hI2.frozen 3
      have z4 := hI2.frozen 4
      have z5 := hI2.frozen 5
      have HI2 := hide hI2
      clear hI2
      go_simp
      refine hK.out _ _ (unhide HSB _ (unhide HB2)) (fun hHeld => ?_)
      clear hK K
      (try go_frame)
      refine wpAnyH_take (i := 8) (v := ?_) rfl (by kernel_rfl) (by kernel_rfl) (by kernel_rfl) (fun _ _ _ h => h) (Or.inl ⟨by rfl, ?_⟩) (by assumption) ?_
      rotate_left
      · intro w hSw; (try dsimp only at hSw); go_simp; (try rfl)
      (try go_frame)
      refine wpAnyH_ready (rs := [10]) (by kernel_rfl) (by simp) (AllReadyH.cons rfl (fun K hK => ?_) AllReadyH.nil)
      go_simp
      have HO6 := hide (show Only (fun i => i = (w.heap.size + 1)) w2 ((((((w2.setCell ⟨w.heap.size + 1, 0, none⟩ (.int .i64 x.now)).setCell ⟨w.heap.size + 1, 1, none⟩ (.slice none 0 0)).setCell ⟨w.heap.size + 1, 2, none⟩ (.slice none 0 0)).setCell ⟨w.heap.size + 1, 3, none⟩ (.int .i64 0)).setCell ⟨w.heap.size + 1, 4, none⟩ (.int .i64 (x.waiting (-1) : Int))).setCell ⟨w.heap.size + 1, 5, none⟩ (.bool x.busy)) from ((((((Only.refl (fun i => i = (w.heap.size + 1)) w2).setCell (.inl rfl)).setCell (.inl rfl)).setCell (.inl rfl)).setCell (.inl rfl)).setCell (.inl rfl)).setCell (.inl rfl))
      refine hK.out _ _ (unhide HSB _ (bel_sets (unhide HB2) (unhide HO6) (by omega))) (fun hHeld => ?_)
      clear hK K
      refine wpAnyH_done (by kernel_rfl) ?_ _
      clear hHeld
      go_wp2_with fail
      go_meet
      exact ⟨w.heap.size + 1, rfl, Rk.start (by omega) (bel_sets (unhide HB2) (unhide HO6) (by omega)) (((((((unhide HI2).set 0 _).set 1 _).set 2 _).set 3 _).set 4 _).set 5 _) ((unhide HR2).only (unhide HO6) (by omega))⟩
  case rest =>
    obtain ⟨b, rfl, hR⟩ := hcut
    have HR := hide hR
    clear hR HSB HBz
    obtain ⟨nf, hnf⟩ : ∃ nf, x.fl.length = nf := ⟨_, rfl⟩
    have HNf := hide hnf
    rw [hnf] at hfl
    clear hnf
    go_wp2_with fail
    go_loopw [4] (fun a wr => ∃ (k : Nat) (vl vs : Value), a = .int .i64 (k : Int) ∧ k ≤ nf ∧ Rk w wr b x k k k vl vs) (fun a _ => nf - (intOf a).toNat)
    case atStart => exact ⟨0, _, _, rfl, Nat.zero_le _, unhide HR⟩
    case round =>
      obtain ⟨k, vl, vs, rfl, hk, hRk⟩ := hrel
      clear HR
      have HR := hide hRk
      have hVr := (unhide HV).below hRk.bl
      obtain ⟨af, cf, hvf⟩ := hVr.flLen
      rw [unhide HNf] at hvf
      subst hvf
      have c1 : wr.cell? ⟨P, 1, none⟩ = some (.slice af nf cf) := hVr.blk.cell (j := 1) rfl
      by_cases hlt : k < nf
      · have hki : (k : Int) < (nf : Int) := by omega
        have hnf9 : (nf : Int) ≤ 1500000 := by omega
        have hkl : k < x.fl.length := by rw [unhide HNf]; exact hlt
        obtain ⟨gf, cf', hgv, hgl, hcell⟩ := (unhide HV).flAt (by omega)
        rw [unhide HNf] at hgv
        simp only [Value.slice.injEq] at hgv
        obtain ⟨rfl, -, rfl⟩ := hgv
        have HFc := hide (fun (W : World) (hb : Below w.heap.size w W) => show W.cell? ⟨P, 1, none⟩ = some (.slice (some ⟨gf, 0, none⟩) nf cf) ∧ W.cell? ⟨gf, k * 6 + 5, none⟩ = some (.int .i64 x.fl[k].is) from ⟨((unhide HV).below hb).blk.cell (j := 1) rfl, (hb.cell (p := ⟨gf, k * 6 + 5, none⟩) hgl).trans (hcell k hkl).2.2.2.2.2⟩)
        have HIs := hide (show isOf x.fl (k : Int) = x.fl[k].is from by unfold isOf; rw [Int.toNat_natCast, List.getElem?_eq_getElem hkl])
        generalize x.fl[k].is = is at *
        have x3 : wr.cell? ⟨b, 3, none⟩ = some (.int .i64 (swt x k)) := hRk.vb.cell (j := 3) rfl
        have hs0 : 0 ≤ swt x k := sm_nonneg (fun _ _ => Int.natCast_nonneg _) k
        have hs1 : swt x k ≤ (k : Int) * 100000000 := sm_le (by decide) (fun j _ => unhide HWl (j : Int)) k
        have hw0 : 0 ≤ (x.waiting (k : Int) : Int) := Int.natCast_nonneg _
        have hw1 := unhide HWl (k : Int)
        have hkk : (k : Int) * 100000000 ≤ 150000000000000 := by omega
        have HSu := hide (swt_succ x k)
        have hwr : IntKind.i64.wrap (swt x k + (x.waiting (k : Int) : Int)) = swt x k + (x.waiting (k : Int) : Int) := by go_arith
        have HRd := hide (show Rk w wr.drew b x k k k vl vs from hRk.below (Below.refl _ _).drew)
        have HBd := hide (show Below w.heap.size w wr.drew from hRk.bl.drew)
        clear hRk hVr hcell hkl
        go_upto_region 5 with fail
        go_cut [4] from 23 to 29 (fun a wx => a = .int .i64 (k : Int) ∧ Rk w wx b x k k (k + 1) vl vs)
        case first =>
          refine wp_region_held_drew (S := (fun _ : World => True)) (by kernel_rfl) trivial (fun hHeld => ?_)
          refine wpAnyH_take (i := 0) (v := ?_) rfl (by kernel_rfl) (by kernel_rfl) (by kernel_rfl) (fun _ _ _ h => h) (Or.inl ⟨by rfl, ?_⟩) (by assumption) ?_
          rotate_left
          · intro w hSw; (try dsimp only at hSw); go_simp; (try rfl)
          (try go_frame)
          refine wpAnyH_take (i := 2) (v := ?_) rfl (by kernel_rfl) (by kernel_rfl) (by kernel_rfl) (fun _ _ _ h => h) (Or.inl ⟨by rfl, ?_⟩) (by assumption) ?_
          rotate_left
          · intro w hSw; (try dsimp only at hSw); go_simp; (try rfl)
          (try go_frame)
          refine wpAnyH_take (i := 3) (v := ?_) rfl (by kernel_rfl) (by kernel_rfl) (by kernel_rfl) (fun _ _ _ h => h) (Or.inl ⟨by rfl, ?_⟩) (by assumption) ?_
          rotate_left
          · intro w hSw; (try dsimp only at hSw); go_simp; (try rfl)
          (try go_frame)
          refine wpAnyH_ready (rs := [1, 4]) (by kernel_rfl) (by simp) (AllReadyH.cons rfl (fun K hK => ?_) (AllReadyH.cons rfl (fun K hK => ?_) AllReadyH.nil))
          · go_simp
            refine hK.out _ _ trivial (fun hHeld => ?_)
            clear hK K
            (try go_frame)
            refine wpAnyH_ready (rs := [4]) (by kernel_rfl) (by simp) (AllReadyH.cons rfl (fun K hK => ?_) AllReadyH.nil)
            go_simp
            refine (unhide HWa _ (k : Int) (unhide HBd)).mono ?_
            rintro e w1 ⟨rfl, hb1⟩
            have hR1 := (unhide HRd).below hb1
            have y3 : w1.cell? ⟨b, 3, none⟩ = some (.int .i64 (swt x k)) := hR1.vb.cell (j := 3) rfl
            have z3 := hR1.vb.frozen 3
            have HR1 := hide hR1
            clear hb1 hR1
            go_simp
            refine hK.out _ _ trivial (fun hHeld => ?_)
            clear hK K
            (try go_frame)
            refine wpAnyH_take (i := 5) (v := ?_) rfl (by kernel_rfl) (by kernel_rfl) (by kernel_rfl) (fun _ _ _ h => h) (Or.inl ⟨by rfl, ?_⟩) (by assumption) ?_
            rotate_left
            · intro w hSw; (try dsimp only at hSw); go_simp; (try rfl)
            (try go_frame)
            refine wpAnyH_take (i := 6) (v := ?_) rfl (by kernel_rfl) (by kernel_rfl) (by kernel_rfl) (fun _ _ _ h => h) (Or.inl ⟨by rfl, ?_⟩) (by assumption) ?_
            rotate_left
            · intro w hSw; (try dsimp only at hSw); go_simp; (try rfl)
            (try go_frame)
            refine wpAnyH_ready (rs := [7]) (by kernel_rfl) (by simp) (AllReadyH.cons rfl (fun K hK => ?_) AllReadyH.nil)
            go_simp
            refine hK.out _ _ trivial (fun hHeld => ?_)
            clear hK K
            refine wpAnyH_done (by kernel_rfl) ?_ _
            clear hHeld
            go_wp2_with fail
            go_meet
            refine ⟨rfl, ?_⟩
            have hA := (unhide HR1).add
            rw [unhide HSu] at hA
            exact hA
          · go_simp
            refine (unhide HWa _ (k : Int) (unhide HBd)).mono ?_
            rintro e w1 ⟨rfl, hb1⟩
            have hR1 := (unhide HRd).below hb1
            have y3 : w1.cell? ⟨b, 3, none⟩ = some (.int .i64 (swt x k)) := hR1.vb.cell (j := 3) rfl
            have z3 := hR1.vb.frozen 3
            have HR1 := hide hR1
            clear hb1 hR1
            go_simp
            refine hK.out _ _ trivial (fun hHeld => ?_)
            clear hK K
            (try go_frame)
            refine wpAnyH_ready (rs := [1]) (by kernel_rfl) (by simp) (AllReadyH.cons rfl (fun K hK => ?_) AllReadyH.nil)
            go_simp
            refine hK.out _ _ trivial (fun hHeld => ?_)
            clear hK K
            (try go_frame)
            refine wpAnyH_take (i := 5) (v := ?_) rfl (by kernel_rfl) (by kernel_rfl) (by kernel_rfl) (fun _ _ _ h => h) (Or.inl ⟨by rfl, ?_⟩) (by assumption) ?_
            rotate_left
            · intro w hSw; (try dsimp only at hSw); go_simp; (try rfl)
            (try go_frame)
            refine wpAnyH_take (i := 6) (v := ?_) rfl (by kernel_rfl) (by kernel_rfl) (by kernel_rfl) (fun _ _ _ h => h) (Or.inl ⟨by rfl, ?_⟩) (by assumption) ?_
            rotate_left
            · intro w hSw; (try dsimp only at hSw); go_simp; (try rfl)
            (try go_frame)
            refine wpAnyH_ready (rs := [7]) (by kernel_rfl) (by simp) (AllReadyH.cons rfl (fun K hK => ?_) AllReadyH.nil)
            go_simp
            refine hK.out _ _ trivial (fun hHeld => ?_)
            clear hK K
            refine wpAnyH_done (by kernel_rfl) ?_ _
            clear hHeld
            go_wp2_with fail
            go_meet
            refine ⟨rfl, ?_⟩
            have hA := (unhide HR1).add
            rw [unhide HSu] at hA
            exact hA
        case rest =>
          obtain ⟨rfl, hR2⟩ := hcut
          have HR2 := hide hR2
          have hbw : b < wc.heap.size := hR2.vb.lt
          obtain ⟨c1, c2⟩ := unhide HFc _ hR2.bl
          by_cases h0 : is = 0
          · have hd0 : (is == 0) = true := by simpa using h0
            have hd1 : (is == 1) = false := by rw [h0]; rfl
            have HRow := hide hR2.ol
            have e1 : wc.cell? ⟨b, 1, none⟩ = some vl := hR2.vb.cell (j := 1) rfl
            have hlen := idk_len x 0 k
            rw [h0] at HIs
            clear hR2 h0
            go_wp2_with (at_builtin; refine wpList_append_lies _ (by rfl) _ _ 27 (by rfl) (b + 1) 3 i1 _ 1 8 Tryz.underlying27 (unhide HI1) (unhide HY0) (unhide HY1) (unhide HY2) rfl (by omega) _ (idk x 0 k).length (icells (nats (idk x 0 k))) (by rfl) ((unhide HRow).alloc _) ⟨wc.heap.size, 0, none⟩ 1 1 [.int .i64 (k : Int)] (by rfl) (by rfl) (World.news_of_block (cs := #[.int .i64 (k : Int)]) (t := 3) (fr := (0, 0)) (heap_alloc_new wc _)) (by simp [Value.oneCell']) (by omega) (by unfold maxLen; omega) (by omega) (by rw [World.size_alloc]; omega) (wc.heap.size + 1) (by simp) ?_)
            intro g5 cap5 w5 hown hgrow hat hlt5
            have hX := (unhide HR2).live (unhide HIs) hown hgrow hat
            have x5 : w5.cell? ⟨b, 1, none⟩ = some vl := hX.1.cell (j := 1) rfl
            have y5 := hX.1.frozen 1
            have HX := hide (hX.2.noS (by rw [unhide HIs]; decide))
            obtain ⟨c3, c4⟩ := unhide HFc _ hX.2.bl
            clear hX hown hgrow hat hlt5 HRow
            go_wp2_with fail
            go_roundw
            case rel => exact ⟨k + 1, _, _, by go_num, by omega, unhide HX⟩
            case measure => simp [intOf]; omega
          · by_cases h1 : is = 1
            · have hd0 : (is == 0) = false := by rw [h1]; rfl
              have hd1 : (is == 1) = true := by simpa using h1
              have HRow := hide hR2.os
              have e1 : wc.cell? ⟨b, 2, none⟩ = some vs := hR2.vb.cell (j := 2) rfl
              have hlen := idk_len x 1 k
              rw [h1] at HIs
              clear hR2 h1
              go_wp2_with (at_builtin; refine wpList_append_lies _ (by rfl) _ _ 27 (by rfl) (b + 1) 3 i1 _ 1 8 Tryz.underlying27 (unhide HI1) (unhide HY0) (unhide HY1) (unhide HY2) rfl (by omega) _ (idk x 1 k).length (icells (nats (idk x 1 k))) (by rfl) ((unhide HRow).alloc _) ⟨wc.heap.size, 0, none⟩ 1 1 [.int .i64 (k : Int)] (by rfl) (by rfl) (World.news_of_block (cs := #[.int .i64 (k : Int)]) (t := 3) (fr := (0, 0)) (heap_alloc_new wc _)) (by simp [Value.oneCell']) (by omega) (by unfold maxLen; omega) (by omega) (by rw [World.size_alloc]; omega) (wc.heap.size + 1) (by simp) ?_)
              intro g5 cap5 w5 hown hgrow hat hlt5
              have hX := (unhide HR2).stay (unhide HIs) hown hgrow hat
              have x5 : w5.cell? ⟨b, 2, none⟩ = some vs := hX.1.cell (j := 2) rfl
              have y5 := hX.1.frozen 2
              have HX := hide (hX.2.noL (by rw [unhide HIs]; decide))
              clear hX hown hgrow hat hlt5 HRow
              go_wp2_with fail
              go_roundw
              case rel => exact ⟨k + 1, _, _, by go_num, by omega, unhide HX⟩
              case measure => simp [intOf]; omega
            · have hd0 : (is == 0) = false := by simpa using h0
              have hd1 : (is == 1) = false := by simpa using h1
              have HX := hide ((hR2.noL (by rw [unhide HIs]; exact h0)).noS (by rw [unhide HIs]; exact h1))
              clear hR2
              go_wp2_with fail
              go_roundw
              case rel => exact ⟨k + 1, _, _, by go_num, by omega, unhide HX⟩
              case measure => simp [intOf]; omega
      · have hkn : k = nf := by omega
        subst hkn
        obtain ⟨al, cl, hvl⟩ := row_lenW hRk.ol
        obtain ⟨a2, c2, hvs⟩ := row_lenW hRk.os
        subst hvl
        subst hvs
        have HSw := hide (show swt x k = (x.waits : Int) from by rw [← unhide HNf]; exact unhide HWs)
        have HId := hide (fun is => show idk x is k = x.ids is from by rw [← unhide HNf]; rfl)
        have hIr := hRk.re
        have hIv := hRk.vb
        have v0 : wr.cell? ⟨b, 0, none⟩ = some (.int .i64 x.now) := hIv.cell (j := 0) rfl
        have v1 : wr.cell? ⟨b, 1, none⟩ = some (.slice al (idk x 0 k).length cl) := hIv.cell (j := 1) rfl
        have v2 : wr.cell? ⟨b, 2, none⟩ = some (.slice a2 (idk x 1 k).length c2) := hIv.cell (j := 2) rfl
        have v3 : wr.cell? ⟨b, 3, none⟩ = some (.int .i64 (swt x k)) := hIv.cell (j := 3) rfl
        have v4 : wr.cell? ⟨b, 4, none⟩ = some (.int .i64 (x.waiting (-1) : Int)) := hIv.cell (j := 4) rfl
        have v5 : wr.cell? ⟨b, 5, none⟩ = some (.bool x.busy) := hIv.cell (j := 5) rfl
        have q0 : wr.cell? ⟨w.heap.size, 0, none⟩ = some (.int .i64 0) := hIr.cell (j := 0) rfl
        have q1 : wr.cell? ⟨w.heap.size, 1, none⟩ = some (.slice none 0 0) := hIr.cell (j := 1) rfl
        have q2 : wr.cell? ⟨w.heap.size, 2, none⟩ = some (.slice none 0 0) := hIr.cell (j := 2) rfl
        have q3 : wr.cell? ⟨w.heap.size, 3, none⟩ = some (.int .i64 0) := hIr.cell (j := 3) rfl
        have q4 : wr.cell? ⟨w.heap.size, 4, none⟩ = some (.int .i64 0) := hIr.cell (j := 4) rfl
        have q5 : wr.cell? ⟨w.heap.size, 5, none⟩ = some (.bool false) := hIr.cell (j := 5) rfl
        have z0 := hIr.frozen 0
        have z1 := hIr.frozen 1
        have z2 := hIr.frozen 2
        have z3 := hIr.frozen 3
        have z4 := hIr.frozen 4
        have z5 := hIr.frozen 5
        clear hIr hIv hVr hRk
        go_wp2_with fail
        have HO6 := hide (show Only (fun i => i = w.heap.size) wr ((((((wr.setCell ⟨w.heap.size, 0, none⟩ (.int .i64 x.now)).setCell ⟨w.heap.size, 1, none⟩ (.slice al (idk x 0 k).length cl)).setCell ⟨w.heap.size, 2, none⟩ (.slice a2 (idk x 1 k).length c2)).setCell ⟨w.heap.size, 3, none⟩ (.int .i64 (swt x k))).setCell ⟨w.heap.size, 4, none⟩ (.int .i64 (x.waiting (-1) : Int))).setCell ⟨w.heap.size, 5, none⟩ (.bool x.busy)) from
          ((((((Only.refl (fun i => i = w.heap.size) wr).setCell (.inl rfl)).setCell (.inl rfl)).setCell (.inl rfl)).setCell (.inl rfl)).setCell (.inl rfl)).setCell (.inl rfl))
        have HI6 := hide (((((((unhide HR).re.set 0 (.int .i64 x.now)).set 1 (.slice al (idk x 0 k).length cl)).set 2 (.slice a2 (idk x 1 k).length c2)).set 3 (.int .i64 (swt x k))).set 4 (.int .i64 (x.waiting (-1) : Int))).set 5 (.bool x.busy))
        refine bodyPost_ret (res_cell1 rfl _ _ w.heap.size 84 #[.int .i64 x.now, .slice al (idk x 0 k).length cl, .slice a2 (idk x 1 k).length c2, .int .i64 (swt x k), .int .i64 (x.waiting (-1) : Int), .bool x.busy] (0, 0) _ rfl (unhide HI6) Tryz.underlying84 rfl infoView) rfl ?_
        have h1 := (unhide HR).hb
        rw [← unhide HId 0, ← unhide HId 1, ← unhide HSw]
        exact ⟨_, _, rfl, row_base (ownsRow_only (unhide HR).ol (unhide HO6) (fun g hg e => by have := (ownsRow_lt (unhide HR).ol g hg).1; omega)) (by omega), row_base (ownsRow_only (unhide HR).os (unhide HO6) (fun g hg e => by have := (ownsRow_lt (unhide HR).os g hg).1; omega)) (by omega), bel_sets (unhide HR).bl (unhide HO6) (Nat.le_refl _)⟩
end Go.Proofs.YtcnmajndackohaaGreatDoor
