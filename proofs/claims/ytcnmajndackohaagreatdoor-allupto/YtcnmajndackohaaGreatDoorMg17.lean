import Derived.Test.YtcnmajndackohaaGreatDoorMg13
/-
  What the document's first tells of those of flows.
-/
namespace Go.Proofs.YtcnmajndackohaaGreatDoor
open Go.RowKit
set_option maxRecDepth 100000 in
set_option maxHeartbeats 4000000 in
theorem rfirst_t (w : World) (P : Nat) (x : Ln) (o : Whose) (vf vp vb : Value) (h : RefV w P x o vf vp vb) (hpl : x.pk.length ≤ 100000000) (hfl : x.fl.length ≤ 1000000000) (hnow : x.now ≤ 1000000000000) (hown : ∀ p ∈ x.pk, 0 ≤ p.flow → p.flow.toNat < x.fl.length) (hmay : ∀ st ∈ x.fl, st.f.may) :
    Calls Tryz.prog 123 #[.pointer (some ⟨P, 0, none⟩), .bool true] w fun e w' => e = .returned (.int .i64 (bI (x.first true))) ∧ Below w.heap.size w w' := by
  obtain ⟨ap, cp, rfl⟩ := h.pkLen
  have c0 := h.blk.cell (j := 0) rfl
  have c1 := h.blk.cell (j := 1) rfl
  have c2 := h.blk.cell (j := 2) rfl
  have hPl := h.blk.lt
  have HV := hide h
  have HOw := hide hown
  have HMy := hide hmay
  generalize hn : x.pk.length = n at *
  have HN := hide hn
  have hn1 : (n : Int) ≤ 100000000 := by omega
  clear h hn hpl hown hmay
  go_enter Tryz.func123, Tryz.ntmps123
  go_wp2_with fail
  go_loopw [5, 6, 7] (fun m l i wr => ∃ (j : Nat) (bi bd : Int), j ≤ n ∧ i = .int .i64 j ∧ m = .int .i64 bi ∧ l = .int .i64 bd ∧ PickAt x true j bi bd ∧ Below w.heap.size w wr) (fun _ _ i _ => n - (intOf i).toNat)
  case atStart => exact ⟨0, -1, 0, Nat.zero_le _, rfl, rfl, rfl, PickAt.zero, Below.refl _ _⟩
  case round =>
    obtain ⟨j, bi, bd, hj, rfl, rfl, rfl, hpk, hbel⟩ := hrel
    have d0 := (hbel.cell hPl).trans c0
    have d1 := (hbel.cell hPl).trans c1
    have d2 := (hbel.cell hPl).trans c2
    have HB := hide hbel
    have HPk := hide hpk
    by_cases hjn : j < n
    · have hjl : j < x.pk.length := by rw [unhide HN]; exact hjn
      have hji : (j : Int) < (n : Int) := by omega
      obtain ⟨g, c, hgv, hgl, hcell⟩ := (unhide HV).pkAt (by omega)
      simp only [Value.slice.injEq] at hgv
      obtain ⟨rfl, _, rfl⟩ := hgv
      obtain ⟨q0, q1, q2, q3, q4, q5, q6⟩ := hcell j hjl
      have f0 := (hbel.cell (p := ⟨g, j * 7, none⟩) hgl).trans q0
      have f1 := (hbel.cell (p := ⟨g, j * 7 + 1, none⟩) hgl).trans q1
      have f2 := (hbel.cell (p := ⟨g, j * 7 + 2, none⟩) hgl).trans q2
      have f3 := (hbel.cell (p := ⟨g, j * 7 + 3, none⟩) hgl).trans q3
      have f4 := (hbel.cell (p := ⟨g, j * 7 + 4, none⟩) hgl).trans q4
      have f5 := (hbel.cell (p := ⟨g, j * 7 + 5, none⟩) hgl).trans q5
      have f6 := (hbel.cell (p := ⟨g, j * 7 + 6, none⟩) hgl).trans q6
      have HF := hide (fun (k : Nat) (hk : k < x.pk.length) => (hbel.cell (p := ⟨g, k * 7, none⟩) hgl).trans (hcell k hk).1)
      have HSk := hide (fun he => (unhide HPk).skip hjl he)
      have HSt := hide (fun he => PickAt.step hjl he (unhide HPk))
      have HEl := hide (show elB x.now true x.pk[j] = (decide (x.pk[j].start < 0) && !x.pk[j].dropped && decide (0 ≤ x.pk[j].ready) && decide (x.pk[j].ready ≤ x.now) && (decide (0 ≤ x.pk[j].flow) == true)) from rfl)
      have HKy := hide (show key x.fl true x.pk[j] = x.pk[j].ready + dueOf x.fl x.pk[j].flow from rfl)
      have HOj := hide (unhide HOw x.pk[j] (List.getElem_mem hjl))
      have hgr : g < wr.heap.size := Nat.lt_of_lt_of_le hgl hbel.size
      have hPr : P < wr.heap.size := Nat.lt_of_lt_of_le hPl hbel.size
      clear hcell q0 q1 q2 q3 q4 q5 q6 hpk
      generalize x.pk[j] = p at *
      have old : ∀ (b i : Nat), b < wr.heap.size → (wr.alloc (.cells #[.int .i64 p.flow, .int .i64 p.seq, .int .i64 p.size, .int .i64 p.ready, .int .i64 p.start, .bool p.dropped, .bool p.told] 184)).cell? ⟨b, i, none⟩ = wr.cell? ⟨b, i, none⟩ := fun b i hb => World.cell?_alloc_past _ b i hb
      have a0 := (old P 0 hPr).trans d0
      have a1 := (old P 1 hPr).trans d1
      have a2 := (old P 2 hPr).trans d2
      have HOld := hide old
      have HBA := hide (show Below w.heap.size w (wr.alloc (.cells #[.int .i64 p.flow, .int .i64 p.seq, .int .i64 p.size, .int .i64 p.ready, .int .i64 p.start, .bool p.dropped, .bool p.told] 184)) from bel_then (unhide HB) (bel_one _))
      clear old hbel
      by_cases hel : elB x.now true p = true
      · have hst := unhide HSt hel
        rw [unhide HKy] at hst
        rw [unhide HEl] at hel
        have hcs : p.start < 0 ∧ p.dropped = false ∧ 0 ≤ p.ready ∧ p.ready ≤ x.now ∧ 0 ≤ p.flow := by
          cases hd : p.dropped <;> simp [hd] at hel ⊢ <;> omega
        obtain ⟨h1, h2, h3, h4, h5⟩ := hcs
        have e1 : decide (0 ≤ p.start) = false := by simpa using h1
        have e3 : decide (p.ready < 0) = false := by simpa using h3
        have e4 : decide (x.now < p.ready) = false := by simpa using h4
        have e5 : decide (0 ≤ p.flow) = true := by simpa using h5
        have hoj := unhide HOj h5
        obtain ⟨gf, cf, hfv, hgf, hfc⟩ := (unhide HV).flAt (by omega)
        obtain ⟨q, hq⟩ : ∃ q : Nat, p.flow = (q : Int) := ⟨p.flow.toNat, by omega⟩
        rw [hq, Int.toNat_natCast] at hoj
        have hmy := unhide HMy x.fl[q] (List.getElem_mem hoj)
        have hd0 : 0 ≤ x.fl[q].f.d ∧ x.fl[q].f.d ≤ 100 := ⟨by have := hmy.d0; have := hmy.s0; omega, hmy.d1⟩
        have HDu := hide (show dueOf x.fl p.flow = x.fl[q].f.d by unfold dueOf; rw [hq, Int.toNat_natCast, List.getElem?_eq_getElem hoj])
        rw [unhide HDu] at hst
        have u4 := ((unhide HB).cell (p := ⟨gf, q * 6 + 4, none⟩) hgf).trans (hfc q hoj).2.2.2.2.1
        have hfr : gf < wr.heap.size := Nat.lt_of_lt_of_le hgf (unhide HB).size
        have hqn : (q : Int) < (x.fl.length : Int) := by omega
        rw [hfv] at d1
        clear hfc hmy hfv HDu
        generalize x.fl[q].f.d = dd at *
        clear hoj
        generalize p.flow = pfl at *
        subst hq
        have ew : IntKind.i64.wrap (p.ready + dd) = p.ready + dd := by go_arith
        clear hel HSk HSt HEl HKy HOj HBA a0 a1 a2
        rcases hst with ⟨rfl, hnw⟩ | ⟨k, hk, rfl, hy, hno⟩
        · have HNw := hide hnw
          clear hnw
          go_wp2_with fail
          go_quiet (fail)
          go_wp2_with fail
          go_quiet (fail)
          go_wp2_with fail
          go_quiet (fail)
          go_wp2_with fail
          go_roundw
          case rel => exact ⟨j + 1, j, p.ready + dd, by omega, by go_num, rfl, rfl, unhide HNw, below_drewN (bel_then (unhide HB) (bel_one _)) _⟩
          case measure => simp [intOf]; omega
        · have hkl : k < x.pk.length := by omega
          have fk := unhide HF k hkl
          have hkn : (k : Int) < (n : Int) := by omega
          have ek : decide ((k : Int) < 0) = false := by simp
          have HY := hide hy
          have HNo := hide hno
          clear hy hno HF HOld
          generalize x.pk[k].flow = kf at *
          have hcs : p.ready + dd < bd ∨ (p.ready + dd = bd ∧ (q : Int) < kf) ∨ (p.ready + dd = bd ∧ kf ≤ (q : Int)) ∨ bd < p.ready + dd := by omega
          rcases hcs with g1 | ⟨g1, g2⟩ | ⟨g1, g2⟩ | g1
          · have HR := hide (unhide HY (.inl g1))
            have x1 : decide (p.ready + dd < bd) = true := by simpa using g1
            go_wp2_with fail
            go_quiet (fail)
            go_wp2_with fail
            go_quiet (fail)
            go_wp2_with fail
            go_quiet (fail)
            go_wp2_with fail
            go_roundw
            case rel => exact ⟨j + 1, j, p.ready + dd, by omega, by go_num, rfl, rfl, unhide HR, below_drewN (bel_then (unhide HB) (bel_one _)) _⟩
            case measure => simp [intOf]; omega
          · have HR := hide (unhide HY (.inr ⟨g1, g2⟩))
            have x1 : decide (p.ready + dd < bd) = false := by simp; omega
            have x2 : (p.ready + dd == bd) = true := by simpa using g1
            have x3 : decide ((q : Int) < kf) = true := by simpa using g2
            clear g1
            go_wp2_with fail
            go_quiet (fail)
            go_wp2_with fail
            go_quiet (fail)
            go_wp2_with fail
            go_quiet (fail)
            go_wp2_with fail
            go_roundw
            case rel => exact ⟨j + 1, j, p.ready + dd, by omega, by go_num, rfl, rfl, unhide HR, below_drewN (bel_then (unhide HB) (bel_one _)) _⟩
            case measure => simp [intOf]; omega
          · have HR := hide (unhide HNo (.inr ⟨g1, g2⟩))
            have x1 : decide (p.ready + dd < bd) = false := by simp; omega
            have x2 : (p.ready + dd == bd) = true := by simpa using g1
            have x3 : decide ((q : Int) < kf) = false := by simpa using g2
            clear g1
            go_wp2_with fail
            go_quiet (fail)
            go_wp2_with fail
            go_quiet (fail)
            go_wp2_with fail
            go_quiet (fail)
            go_wp2_with fail
            go_roundw
            case rel => exact ⟨j + 1, k, bd, by omega, by go_num, rfl, rfl, unhide HR, below_drewN (bel_then (unhide HB) (bel_one _)) _⟩
            case measure => simp [intOf]; omega
          · have HR := hide (unhide HNo (.inl g1))
            have x1 : decide (p.ready + dd < bd) = false := by simp; omega
            have x2 : (p.ready + dd == bd) = false := by simp; omega
            go_wp2_with fail
            go_quiet (fail)
            go_wp2_with fail
            go_quiet (fail)
            go_wp2_with fail
            go_quiet (fail)
            go_wp2_with fail
            go_roundw
            case rel => exact ⟨j + 1, k, bd, by omega, by go_num, rfl, rfl, unhide HR, below_drewN (bel_then (unhide HB) (bel_one _)) _⟩
            case measure => simp [intOf]; omega
      · have hel' : elB x.now true p = false := by simpa using hel
        have HSk' := hide (unhide HSk hel')
        rw [unhide HEl] at hel
        have hcs : 0 ≤ p.start ∨ (p.start < 0 ∧ p.dropped = true) ∨ (p.start < 0 ∧ p.dropped = false ∧ p.ready < 0) ∨ (p.start < 0 ∧ p.dropped = false ∧ 0 ≤ p.ready ∧ x.now < p.ready) ∨ (p.start < 0 ∧ p.dropped = false ∧ 0 ≤ p.ready ∧ p.ready ≤ x.now ∧ p.flow < 0) := by
          cases hd : p.dropped <;> simp [hd] at hel ⊢ <;> omega
        clear hel hel' HSk HSt HEl HKy HOj
        rcases hcs with h1 | ⟨h1, h2⟩ | ⟨h1, h2, h3⟩ | ⟨h1, h2, h3, h4⟩ | ⟨h1, h2, h3, h4, h5⟩
        · have e1 : decide (0 ≤ p.start) = true := by simpa using h1
          go_wp2_with fail
          go_quiet (fail)
          go_wp2_with fail
          go_roundw
          case rel => exact ⟨j + 1, bi, bd, by omega, by go_num, rfl, rfl, unhide HSk', below_drewN (bel_then (unhide HB) (bel_one _)) _⟩
          case measure => simp [intOf]; omega
        · have e1 : decide (0 ≤ p.start) = false := by simpa using h1
          go_wp2_with fail
          go_quiet (fail)
          go_wp2_with fail
          go_roundw
          case rel => exact ⟨j + 1, bi, bd, by omega, by go_num, rfl, rfl, unhide HSk', below_drewN (bel_then (unhide HB) (bel_one _)) _⟩
          case measure => simp [intOf]; omega
        · have e1 : decide (0 ≤ p.start) = false := by simpa using h1
          have e3 : decide (p.ready < 0) = true := by simpa using h3
          go_wp2_with fail
          go_quiet (fail)
          go_wp2_with fail
          go_roundw
          case rel => exact ⟨j + 1, bi, bd, by omega, by go_num, rfl, rfl, unhide HSk', below_drewN (bel_then (unhide HB) (bel_one _)) _⟩
          case measure => simp [intOf]; omega
        · have e1 : decide (0 ≤ p.start) = false := by simpa using h1
          have e3 : decide (p.ready < 0) = false := by simpa using h3
          have e4 : decide (x.now < p.ready) = true := by simpa using h4
          go_wp2_with fail
          go_quiet (fail)
          go_wp2_with fail
          go_roundw
          case rel => exact ⟨j + 1, bi, bd, by omega, by go_num, rfl, rfl, unhide HSk', below_drewN (bel_then (unhide HB) (bel_one _)) _⟩
          case measure => simp [intOf]; omega
        · have e1 : decide (0 ≤ p.start) = false := by simpa using h1
          have e3 : decide (p.ready < 0) = false := by simpa using h3
          have e4 : decide (x.now < p.ready) = false := by simpa using h4
          have e5 : decide (0 ≤ p.flow) = false := by simpa using h5
          go_wp2_with fail
          go_quiet (fail)
          go_wp2_with fail
          go_roundw
          case rel => exact ⟨j + 1, bi, bd, by omega, by go_num, rfl, rfl, unhide HSk', below_drewN (bel_then (unhide HB) (bel_one _)) _⟩
          case measure => simp [intOf]; omega
    · have hj2 : j = n := by omega
      subst hj2
      clear hbel
      go_wp2_with fail
      go_ret
      refine ⟨ret_int ?_, unhide HB⟩
      have := unhide HPk
      rw [← unhide HN] at this
      exact this.done
end Go.Proofs.YtcnmajndackohaaGreatDoor
