import Derived.Test.YtcnmajndackohaaGreatDoorMg27
import Derived.Test.YtcnmajndackohaaGreatDoorMg13
import Derived.Test.YtcnmajndackohaaGreatDoorMg42
/-
  What the document's Setup does.
-/
namespace Go.Proofs.YtcnmajndackohaaGreatDoor
open Go.RowKit
attribute [local go_sem ↓] Go.wp_at_zero Go.wp_at_succ
/-- The flows that count, gathered so far. -/
def gth (x : Ln) (f : Fl) (i : Nat) : List Fl := f :: lv (x.fl.take i)
theorem gth_succ {x : Ln} {f : Fl} {i : Nat} (h : i < x.fl.length) : gth x f (i + 1) = gth x f i ++ if x.fl[i].is < 2 then [x.fl[i].f] else [] := by
  unfold gth lv
  rw [List.take_succ_eq_append_getElem h, List.filter_append, List.map_append, List.filter_cons]
  by_cases c : x.fl[i].is < 2 <;> simp [c]
theorem gth_len (x : Ln) (f : Fl) (i : Nat) : (gth x f i).length ≤ i + 1 := by
  unfold gth lv
  rw [List.length_cons, List.length_map]
  have h1 := List.length_filter_le (fun s : Stt => decide (s.is < 2)) (x.fl.take i)
  rw [List.length_take] at h1
  omega
set_option maxRecDepth 100000 in
set_option maxHeartbeats 4000000 in
theorem rsetup_any (w : World) (P : Nat) (x : Ln) (o : Whose) (vf vp vb : Value) (f : Fl) (h : RefV w P x o vf vp vb) (hL : Lnv x) (hfl : x.fl.length ≤ 1500000) :
    Calls Tryz.prog 82 #[.pointer (some ⟨P, 0, none⟩), flA f] w fun e w' => e = .returned (.tuple #[.int .i64 (x.setup f).1.1, .int .i64 (x.setup f).1.2.1, .int .i64 (x.setup f).1.2.2]) ∧ RefTo w o P (x.setup f).2 w' := by
  have HM := hide (fun W => rmay_any f W)
  have HV := hide h
  unfold flA
  cases hmy : f.mayB
  · have HE := hide (show x.setup f = ((0, 0, 1), x) from by unfold Ln.setup; rw [if_pos hmy])
    rw [hmy] at HM
    generalize x.setup f = sd at *
    clear h hL hmy
    go_enter Tryz.func82, Tryz.ntmps82
    go_wp2_with fail
    refine (unhide HM _).mono ?_
    rintro e w1 ⟨rfl, hb1⟩
    have HB1 := hide (bel_then (bel_one (w := w) _) hb1)
    clear hb1 HM
    go_wp2_with fail
    go_ret3
    refine ⟨by rw [unhide HE]; rfl, ?_⟩
    rw [unhide HE]
    exact (unhide HV).stays (unhide HB1)
  · rw [hmy] at HM
    have hmay := (mayB_iff f).1 hmy
    have HSd := hide (show x.setup f = if 6 < (gth x f x.fl.length).length then ((0, 0, 2), x) else if 0 < viol (gth x f x.fl.length) then ((0, viol (gth x f x.fl.length), 3), x) else (((x.fl.length : Int), 0, 0), { x with fl := x.fl ++ [⟨f, 0⟩] }) from by
      unfold Ln.setup gth
      rw [if_neg (by rw [hmy]; decide), List.take_length]
      rfl)
    have HMy := hide (show ∀ g ∈ gth x f x.fl.length, g.may from fun g hg => by
      unfold gth at hg
      rw [List.take_length] at hg
      rcases List.mem_cons.1 hg with rfl | hg
      · exact hmay
      · exact lv_may hL g hg)
    have HN0 := hide (Is.new w 35 #[.int .i64 f.s, .int .i64 f.p, .int .i64 f.b, .int .i64 f.r, .int .i64 f.d])
    obtain ⟨i0, hi0, hz0, hz1, hz2⟩ := info_anyR infoFlow
    have HI0 := hide hi0
    have HZ0 := hide hz0
    have HZ1 := hide hz1
    have HZ2 := hide hz2
    obtain ⟨nf, hnf⟩ : ∃ nf, x.fl.length = nf := ⟨_, rfl⟩
    obtain ⟨av, cv, hvf⟩ := h.flLen
    have HNf := hide hnf
    have HVf := hide hvf
    have c1 : w.cell? ⟨P, 1, none⟩ = some (.slice av nf cv) := by rw [← hnf, ← hvf]; exact h.blk.cell (j := 1) rfl
    have hPl := h.blk.lt
    have hnf1 : (nf : Int) ≤ 1500000 := by omega
    have HLen := hide (fun i => gth_len x f i)
    have HSu := hide (fun (i : Nat) (hi : i < x.fl.length) => gth_succ (x := x) (f := f) hi)
    generalize x.setup f = sd at *
    clear h hL hmy hi0 hz0 hz1 hz2 hnf hvf hmay hfl
    go_enter Tryz.func82, Tryz.ntmps82
    go_wp2_with fail
    refine (unhide HM _).mono ?_
    rintro e w1 ⟨rfl, hb1⟩
    have hI := (unhide HN0).below hb1
    have hB := bel_then (bel_one (w := w) _) hb1
    have q0 : w1.cell? ⟨w.heap.size, 0, none⟩ = some (.int .i64 f.s) := hI.cell (j := 0) rfl
    have q1 : w1.cell? ⟨w.heap.size, 1, none⟩ = some (.int .i64 f.p) := hI.cell (j := 1) rfl
    have q2 : w1.cell? ⟨w.heap.size, 2, none⟩ = some (.int .i64 f.b) := hI.cell (j := 2) rfl
    have q3 : w1.cell? ⟨w.heap.size, 3, none⟩ = some (.int .i64 f.r) := hI.cell (j := 3) rfl
    have q4 : w1.cell? ⟨w.heap.size, 4, none⟩ = some (.int .i64 f.d) := hI.cell (j := 4) rfl
    have HOw := hide (show (w1.alloc (.cells #[.int .i64 f.s, .int .i64 f.p, .int .i64 f.b, .int .i64 f.r, .int .i64 f.d] 35)).ownsRow w1.heap.size 35 5 (.slice (some ⟨w1.heap.size, 0, none⟩) 1 1) (gth x f 0).length (fcells (gth x f 0)) from own_one w1 f (Nat.le_refl _))
    have HBA := hide (bel_one (w := w1) (.cells #[.int .i64 f.s, .int .i64 f.p, .int .i64 f.b, .int .i64 f.r, .int .i64 f.d] 35))
    have HBw := hide hB
    have HI1 := hide hI
    clear hb1 HM hI hB HN0
    go_wp2_with fail
    go_loopw [8, 9] (fun v a wr => ∃ (i : Nat), a = .int .i64 (i : Int) ∧ i ≤ nf ∧ wr.ownsRow w1.heap.size 35 5 v (gth x f i).length (fcells (gth x f i)) ∧ Below w1.heap.size w1 wr) (fun _ a _ => nf - (intOf a).toNat)
    case atStart => exact ⟨0, rfl, Nat.zero_le _, unhide HOw, unhide HBA⟩
    case round =>
      obtain ⟨i, rfl, hi, hrow, hbel1⟩ := hrel
      have HB1 := hide hbel1
      have hbel := bel_then (unhide HBw) hbel1
      have d1 := (hbel.cell hPl).trans c1
      have HRow := hide hrow
      have HB := hide hbel
      clear hbel1
      by_cases hlt : i < nf
      · have hil : i < x.fl.length := by rw [unhide HNf]; exact hlt
        have hii : (i : Int) < (nf : Int) := by omega
        obtain ⟨gf, cf2, hgv, hgl, hcell⟩ := (unhide HV).flAt (by omega)
        have hav := (unhide HVf).symm.trans hgv
        rw [unhide HNf] at hav
        simp only [Value.slice.injEq] at hav
        obtain ⟨rfl, _, rfl⟩ := hav
        obtain ⟨u0, u1, u2, u3, u4, u5⟩ := hcell i hil
        have f0 := (hbel.cell (p := ⟨gf, i * 6, none⟩) hgl).trans u0
        have f1 := (hbel.cell (p := ⟨gf, i * 6 + 1, none⟩) hgl).trans u1
        have f2 := (hbel.cell (p := ⟨gf, i * 6 + 2, none⟩) hgl).trans u2
        have f3 := (hbel.cell (p := ⟨gf, i * 6 + 3, none⟩) hgl).trans u3
        have f4 := (hbel.cell (p := ⟨gf, i * 6 + 4, none⟩) hgl).trans u4
        have f5 := (hbel.cell (p := ⟨gf, i * 6 + 5, none⟩) hgl).trans u5
        have hS := unhide HSu i hil
        have hln := unhide HLen i
        generalize x.fl[i].is = is at *
        generalize x.fl[i].f = g at *
        obtain ⟨al, cl, hv⟩ := row_lenS hrow
        subst hv
        have HS := hide hS
        clear hcell u0 u1 u2 u3 u4 u5 hrow hbel hS hgv
        by_cases hc : is < 2
        · have hd : decide (is < 2) = true := by simpa using hc
          have hsw : w1.heap.size ≤ wr.heap.size := (unhide HB1).size
          rw [if_pos hc] at HS
          go_wp2_with (at_builtin; refine wpList_append_lies _ (by rfl) _ _ 37 (by rfl) w1.heap.size 35 i0 _ 5 40 Tryz.underlying37 (unhide HI0) (unhide HZ0) (unhide HZ1) (unhide HZ2) rfl (by omega) _ (gth x f i).length (fcells (gth x f i)) (by rfl) ((unhide HRow).alloc _) ⟨wr.heap.size, 0, none⟩ 1 1 [.int .i64 g.s, .int .i64 g.p, .int .i64 g.b, .int .i64 g.r, .int .i64 g.d] (by rfl) (by rfl) (World.news_of_block (cs := #[.int .i64 g.s, .int .i64 g.p, .int .i64 g.b, .int .i64 g.r, .int .i64 g.d]) (t := 35) (fr := (0, 0)) (heap_alloc_new wr _)) (by simp [Value.oneCell']) (by omega) (by unfold maxLen; omega) (by omega) (by simp; omega) (wr.heap.size + 1) (by simp) ?_)
          intro g5 cap5 w5 hown hgrow hat hlt5
          have hX := own_push (w0 := w1) (g := g) (show Own (wr.alloc (.cells #[.int .i64 g.s, .int .i64 g.p, .int .i64 g.b, .int .i64 g.r, .int .i64 g.d] 35)) w1.heap.size _ (gth x f i) from (unhide HRow).alloc _) (bel_then (unhide HB1) (bel_one _)) hown hgrow
          have HX := hide hX
          clear hX hown hgrow hat hlt5
          go_wp2_with fail
          go_roundw
          case rel => exact ⟨i + 1, by go_num, by omega, by rw [unhide HS]; exact (unhide HX).1, (unhide HX).2⟩
          case measure => simp [intOf]; omega
        · have hd : decide (is < 2) = false := by simpa using hc
          rw [if_neg hc, List.append_nil] at HS
          go_wp2_with fail
          go_roundw
          case rel => exact ⟨i + 1, by go_num, by omega, by rw [unhide HS]; exact unhide HRow, unhide HB1⟩
          case measure => simp [intOf]; omega
      · have hin : i = nf := by omega
        subst hin
        rw [unhide HNf] at HSd HMy
        have hrow2 := unhide HRow
        obtain ⟨al, cl, hv⟩ := row_lenS hrow2
        subst hv
        have hln := unhide HLen i
        have HVi := hide (fun (h6 : (gth x f i).length ≤ 6) => rviol_F _ (gth x f i) wr (Own.fls hrow2) h6 (unhide HMy))
        have hv0 := viol_range (gth x f i)
        generalize hgl : (gth x f i).length = ng at *
        generalize viol (gth x f i) = vv at *
        have HGl := hide hgl
        clear hrow hrow2 hbel hgl
        by_cases h6 : 6 < ng
        · have HE := hide (show sd = ((0, 0, 2), x) from by rw [unhide HSd, if_pos h6])
          have h6i : (6 : Int) < (ng : Int) := by omega
          go_wp2_with fail
          go_ret3
          refine ⟨by rw [unhide HE]; rfl, ?_⟩
          rw [unhide HE]
          exact (unhide HV).stays (unhide HB)
        · have h6i : decide ((6 : Int) < (ng : Int)) = false := by simp; omega
          have h6n : decide (6 < ng) = false := by simp; omega
          rw [if_neg h6] at HSd
          go_wp2_with fail
          refine (unhide HVi (by omega)).mono ?_
          rintro e w2 ⟨rfl, hb2⟩
          have HB2 := hide (bel_then (unhide HB) hb2)
          have HBv := hide hb2
          clear hb2 HVi
          by_cases hvp : 0 < vv
          · have HE := hide (show sd = ((0, vv, 3), x) from by rw [unhide HSd, if_pos hvp])
            have hvd : decide (0 < vv) = true := by simpa using hvp
            go_wp2_with fail
            go_ret3
            refine ⟨by rw [unhide HE]; rfl, ?_⟩
            rw [unhide HE]
            exact (unhide HV).stays (unhide HB2)
          · have hvd : decide (0 < vv) = false := by simpa using hvp
            rw [if_neg hvp] at HSd
            have HV2 := hide ((unhide HV).below (unhide HB2))
            have hI2 := (unhide HI1).below (bel_then (unhide HB1) (unhide HBv))
            have m0 : w2.cell? ⟨w.heap.size, 0, none⟩ = some (.int .i64 f.s) := hI2.cell (j := 0) rfl
            have m1 : w2.cell? ⟨w.heap.size, 1, none⟩ = some (.int .i64 f.p) := hI2.cell (j := 1) rfl
            have m2 : w2.cell? ⟨w.heap.size, 2, none⟩ = some (.int .i64 f.b) := hI2.cell (j := 2) rfl
            have m3 : w2.cell? ⟨w.heap.size, 3, none⟩ = some (.int .i64 f.r) := hI2.cell (j := 3) rfl
            have m4 : w2.cell? ⟨w.heap.size, 4, none⟩ = some (.int .i64 f.d) := hI2.cell (j := 4) rfl
            have n1 : w2.cell? ⟨P, 1, none⟩ = some (.slice av i cv) := ((unhide HB2).cell hPl).trans c1
            have hP2 := (unhide HV2).blk.lt
            obtain ⟨j0, hj0, hy0, hy1, hy2⟩ := info_anyR infoSt
            have HJ0 := hide hj0
            have HY0 := hide hy0
            have HY1 := hide hy1
            have HY2 := hide hy2
            have n1A := (World.cell?_alloc_past (w := w2) (.cells #[.int .i64 f.s, .int .i64 f.p, .int .i64 f.b, .int .i64 f.r, .int .i64 f.d, .int .i64 0] 107) P 1 hP2).trans n1
            have HR2 := hide (show w2.ownsRow 0 107 6 (.slice av i cv) i (scells x.fl) from by have h1 := (unhide HV2).fl.1; rw [unhide HVf, unhide HNf] at h1; exact h1)
            have HBB := hide (show Below w2.heap.size w2 (w2.alloc (.cells #[.int .i64 f.s, .int .i64 f.p, .int .i64 f.b, .int .i64 f.r, .int .i64 f.d, .int .i64 0] 107)).drew from (bel_one _).drew)
            have HVA := hide (fun (g5 cap5 : Nat) (w5 : World) (hown : w5.ownsRow 0 107 6 (.slice (some ⟨g5, 0, none⟩) (i + 1) cap5) (i + 1) (scells x.fl ++ [.int .i64 f.s, .int .i64 f.p, .int .i64 f.b, .int .i64 f.r, .int .i64 f.d, .int .i64 0])) (hgrow : ((w2.alloc (.cells #[.int .i64 f.s, .int .i64 f.p, .int .i64 f.b, .int .i64 f.r, .int .i64 f.d, .int .i64 0] 107)).drew).grownBy w5 (Value.slice av i cv).ownBlock) (hat : (Value.slice av i cv).ownBlock = some g5 ∨ g5 = w2.heap.size + 1) => (unhide HV2).flOn (w2 := w5) (st := ⟨f, 0⟩) (v' := .slice (some ⟨g5, 0, none⟩) (i + 1) cap5) (unhide HBB) (by rw [unhide HNf]; exact hown) (by rw [unhide HVf, unhide HNf]; exact hgrow) (fun g' hg' => by
              rw [unhide HVf, unhide HNf]
              exact hat.imp (fun e => e.trans hg') (fun e => by have e' : g5 = g' := Option.some.inj hg'; omega)))
            clear hI2 hj0 hy0 hy1 hy2
            go_wp2_with fail
            go_region_law (refine step_append_lies _ rfl (.tmp 58) (.tmp 61) 102 rfl 0 107 j0 _ 6 48 Tryz.underlying102 (unhide HJ0) (unhide HY0) (unhide HY1) (unhide HY2) rfl (by omega) (.slice av i cv) i (scells x.fl) (by rfl) (World.ownsRow.drew (World.ownsRow.alloc (unhide HR2) _)) ⟨w2.heap.size, 0, none⟩ 1 1 [.int .i64 f.s, .int .i64 f.p, .int .i64 f.b, .int .i64 f.r, .int .i64 f.d, .int .i64 0] (by rfl) (by rfl) (World.news_of_block (cs := #[.int .i64 f.s, .int .i64 f.p, .int .i64 f.b, .int .i64 f.r, .int .i64 f.d, .int .i64 0]) (t := 107) (fr := (0, 0)) (heap_alloc_new w2 _)) (by simp [Value.oneCell']) (by omega) (by unfold maxLen; omega) (by omega) (Nat.zero_le _) (w2.heap.size + 1) (by show (w2.alloc _).heap.size = _; rw [World.size_alloc]) ?_; intro g5 cap5 w5 hown hgrow hat hlt5; have hX := unhide HVA g5 cap5 w5 hown hgrow hat; have c5 := hX.1.cell (j := 1) rfl; have z5 := hX.1.frozen 1)
            all_goals
              have c6 := hX.2.1.blk.cell (j := 1) rfl
              have HE := hide (unhide HSd)
              have HX := hide hX.2
              clear hX hown hgrow hat hlt5
              go_wp2_with fail
              go_ret3
              refine ⟨by rw [unhide HE]; rfl, ?_⟩
              rw [unhide HE]
              exact RefTo.next (unhide HB2) (unhide HX).1 (unhide HX).2
end Go.Proofs.YtcnmajndackohaaGreatDoor
