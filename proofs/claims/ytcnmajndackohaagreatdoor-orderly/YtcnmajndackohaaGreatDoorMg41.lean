import Derived.Test.YtcnmajndackohaaGreatDoorMg40
import Derived.Deep.CutRange
/-
  What Orderly does, whatever memory a line has.
-/
namespace Go.Proofs.YtcnmajndackohaaGreatDoor
open Go.RowKit
attribute [local go_sem ↓] Go.wp_at_zero Go.wp_at_succ

theorem line_belowO {W a c : World} (h : Below W.heap.size W a) (k : Below a.heap.size a c) : Below W.heap.size W c := bel_then h k
theorem row_baseO {w : World} {b : Nat} {t : TypeId} {v : Value} {n size : Nat} {xs : List Value} (h : w.ownsRow b t size v n xs) : w.ownsRow 0 t size v n xs := by
  refine ⟨h.1, ?_⟩
  rcases h.2 with e | ⟨g, cap, cur, e1, _, e3⟩
  · exact .inl e
  · exact .inr ⟨g, cap, cur, e1, Nat.zero_le _, e3⟩
set_option maxRecDepth 100000 in
set_option maxHeartbeats 8000000 in
theorem orderly_F (W : World) (KK : ∀ W', Below W.heap.size W W' → ∃ R, LineK W' R) (a0 a1 : Addr) (hg : Gl W a0 a1) (vr : Value) (lr : List Fl) (hr : Fls W vr lr) (hraw : ∀ f ∈ lr, Raw f) (hrl : lr.length ≤ maxLen) (vs : Value) (l : List Stp) (hl : StL W vs l) (hq : ∀ q ∈ l, q.raw) (hln : l.length ≤ maxLen) :
    Calls Tryz.prog 7 #[vr, vs] W fun e w' => e = .returned (.bool true) ∧ Below W.heap.size W w' := by
  have HKn := hide (known_any W fun W' h => let ⟨R, k⟩ := KK W' h; ⟨R, k.toLineJ⟩)
  have HKK := hide KK
  have HFl := hide (fun (w : World) (hb : Below W.heap.size W w) => flows_F vr lr w (hr.below hb) hraw hrl)
  have HL := hide hl
  have HQ := hide hq
  have HLn := hide hln
  have HMy := hide (show ∀ f ∈ (lr.take 6).map mk, f.may from fun f hf => by
    obtain ⟨q, _, rfl⟩ := List.mem_map.1 hf
    exact mk_may q)
  have HM6 := hide (show ((lr.take 6).map mk).length ≤ 6 from by rw [List.length_map, List.length_take]; omega)
  have HSt := hide hg.st
  generalize (lr.take 6).map mk = L at *
  have HEnd := hide (orderly_end (unhide HMy) l)
  have HLe := hide (orderly_len (unhide HM6) l)
  obtain ⟨i0, hi0, hz0, hz1, hz2⟩ := info_any infoInt
  have HI0 := hide hi0
  have HZ0 := hide hz0
  have HZ1 := hide hz1
  have HZ2 := hide hz2
  clear hi0 hz0 hz1 hz2
  clear KK hg hr hraw hrl hl hq hln
  go_enter Tryz.func7, Tryz.ntmps7
  go_wp2_with fail
  refine (unhide HKn).mono ?_
  rintro e w1 ⟨rfl, hb1⟩
  have HB1 := hide hb1
  clear hb1
  go_wp2_with fail
  refine (unhide HFl w1 (unhide HB1)).mono ?_
  rintro e w2 ⟨v, rfl, hown, hb2⟩
  have HB2 := hide (bel_then (unhide HB1) hb2)
  obtain ⟨R, K⟩ := unhide HKK w2 (unhide HB2)
  have HK := hide K
  have HPl := hide (play_F w2 K.toLineJ v L hown.fls (unhide HMy) (unhide HM6))
  clear hown hb2 K
  go_wp2_with fail
  refine (unhide HPl).mono ?_
  rintro e w3 ⟨b, rfl, hp3⟩
  have HAll := hide (all_F (unhide HK) w3 b L vs l hp3 (unhide HMy) (unhide HM6) ((unhide HL).below (unhide HB2)) (unhide HLn) (unhide HQ))
  clear hp3 HPl
  generalize (((pst L).acts (l.take 100)).drain 100) = s at *
  go_wp2_with fail
  refine (unhide HAll).mono ?_
  rintro e w4 ⟨rfl, hp4⟩
  have HP4 := hide hp4
  have HB4 := hide (bel_then (unhide HB2) hp4.bel)
  obtain ⟨o, P, F, vf, ve, vo, vg, inn, hv⟩ := hp4
  have HV := hide hv
  obtain ⟨af, cf, hfv⟩ := row_len hv.fl.1
  obtain ⟨ag, cg, hgv⟩ := row_len hv.go.1
  obtain ⟨ao, co, hov⟩ := row_len hv.ot.1
  obtain ⟨ae, ce, hev⟩ := row_len hv.se.1
  subst hfv
  subst hgv
  subst hov
  subst hev
  obtain ⟨nf, hnf⟩ : ∃ nf, s.fl.length = nf := ⟨_, rfl⟩
  obtain ⟨n, hn⟩ : ∃ n, s.gone.length = n := ⟨_, rfl⟩
  obtain ⟨no, hno⟩ : ∃ no, s.other.length = no := ⟨_, rfl⟩
  have c1 : w4.cell? ⟨b, 1, none⟩ = some (.slice af nf cf) := by rw [← hnf]; exact hv.blk.cell (j := 1) rfl
  have hbl := hv.blk.lt
  have HNf := hide hnf
  have HN := hide hn
  have HNo := hide hno
  have hb := (unhide HEnd).2.1
  have hpn := (unhide HEnd).2.2
  have hnf1 : (nf : Int) ≤ 106 := by have := unhide HLe; omega
  have hn1 : (n : Int) ≤ 1000000000 := by have := hb.go; omega
  clear hv hnf hn hno hb hpn HAll HFl HKn HKK
  go_wp2_with (at_make; refine wpList_make_full _ (by rfl) _ _ 27 (by rfl) w4.heap.size 3 i0 _ 1 Tryz.underlying27 (unhide HI0) (unhide HZ0) (unhide HZ1) .i64 .i64 _ _ nf (by rfl) (by rfl) (by omega) (by omega) (by rw [unhide HZ2]; omega) (by unfold maxLen; omega) (Nat.le_refl _) ?_)
  intro w5 hown hgrow
  have HR5 := hide (show w5.ownsRow 0 3 1 (.slice (some ⟨w4.heap.size, 0, none⟩) nf nf) nf (ncs s 0) from by
    have e : (madeCells #[Value.int .i64 0] nf).toList = ncs s 0 := by
      rw [ncs_zero, unhide HNf]
      exact toList_madeCells_one _ _
    rw [e] at hown
    exact row_baseO hown)
  have HB5 := hide (show Below w4.heap.size w4 w5 from (Below.refl _ _).grown hgrow (Nat.le_refl _) (fun k hk => by cases hk))
  clear hown hgrow c1
  go_wp2_with fail
  go_loopw [9, 10] (fun c a wr => ∃ i : Nat, i ≤ n ∧ a = .int .i64 (i : Int) ∧ c = .int .i64 (((s.gone.take i).countP (ofk (-1)) : Nat) : Int) ∧ Below w4.heap.size w4 wr ∧ wr.ownsRow 0 3 1 (.slice (some ⟨w4.heap.size, 0, none⟩) nf nf) nf (ncs s i)) (fun _ a _ => n - (intOf a).toNat)
  case atStart => exact ⟨0, Nat.zero_le _, rfl, rfl, unhide HB5, unhide HR5⟩
  case round =>
    obtain ⟨i, hi, rfl, rfl, hbel, hrow⟩ := hrel
    have d4 : wr.cell? ⟨b, 4, none⟩ = some (.slice ag n cg) := by rw [← unhide HN]; exact (hbel.cell hbl).trans ((unhide HV).blk.cell (j := 4) rfl)
    have d3 : wr.cell? ⟨b, 3, none⟩ = some (.slice ao no co) := by rw [← unhide HNo]; exact (hbel.cell hbl).trans ((unhide HV).blk.cell (j := 3) rfl)
    have d1 : wr.cell? ⟨b, 1, none⟩ = some (.slice af nf cf) := by rw [← unhide HNf]; exact (hbel.cell hbl).trans ((unhide HV).blk.cell (j := 1) rfl)
    have HB := hide hbel
    have HRow := hide hrow
    by_cases hx : i < n
    · have hil : i < s.gone.length := by rw [unhide HN]; exact hx
      have hii : (i : Int) < (n : Int) := by omega
      obtain ⟨gg, cgg, hgv, hgc⟩ := row_cell (unhide HV).go.1 (by rw [unhide HN]; omega)
      simp only [Value.slice.injEq] at hgv
      obtain ⟨rfl, _, rfl⟩ := hgv
      have hgl : gg < w4.heap.size := (ownsRow_lt (unhide HV).go.1 gg rfl).2
      have q := gcells_at s.gone i hil
      have e0 := (hbel.cell (p := ⟨gg, i * 6, none⟩) hgl).trans (hgc _ _ q.1)
      have e1 := (hbel.cell (p := ⟨gg, i * 6 + 1, none⟩) hgl).trans (hgc _ _ q.2.1)
      have e2 := (hbel.cell (p := ⟨gg, i * 6 + 2, none⟩) hgl).trans (hgc _ _ q.2.2.1)
      have e3 := (hbel.cell (p := ⟨gg, i * 6 + 3, none⟩) hgl).trans (hgc _ _ q.2.2.2.1)
      have e4 := (hbel.cell (p := ⟨gg, i * 6 + 4, none⟩) hgl).trans (hgc _ _ q.2.2.2.2.1)
      have e5 := (hbel.cell (p := ⟨gg, i * 6 + 5, none⟩) hgl).trans (hgc _ _ q.2.2.2.2.2)
      have HOne := hide ((unhide HEnd).1.one hil)
      have hgr : gg < wr.heap.size := Nat.lt_of_lt_of_le hgl hbel.size
      have hbr : b < wr.heap.size := Nat.lt_of_lt_of_le hbl hbel.size
      have HGc := hide hgc
      clear q hgc
      have HPrev := hide (fun (m : Nat) (hm : i = m + 1) => (⟨(hbel.cell (p := ⟨gg, m * 6 + 5, none⟩) hgl).trans (unhide HGc _ _ (gcells_at s.gone m (by omega)).2.2.2.2.2), by subst hm; exact (unhide HEnd).1.prev hil⟩ : wr.cell? ⟨gg, m * 6 + 5, none⟩ = some (.int .i64 ((s.gone[m]'(by omega)).start + (s.gone[m]'(by omega)).size)) ∧ (s.gone[m]'(by omega)).start + (s.gone[m]'(by omega)).size ≤ s.gone[i].start))
      have HNow := hide (show s.x.now ≤ 100000 from by have := (unhide HEnd).2.1.x.now; omega)
      have HGi := hide (show s.gone[i] = s.gone[i] from rfl)
      obtain ⟨r0, r1, r2, z0, z1, f0, f1, hsq⟩ := unhide HOne
      have hnow := unhide HNow
      have HSq := hide hsq
      have hgq0 : 0 ≤ s.gone[i].seq := by rw [hsq]; omega
      rw [unhide HNf] at f1
      clear hsq HOne
      obtain ⟨gf, hgf⟩ : ∃ gf, s.gone[i].flow = gf := ⟨_, rfl⟩
      obtain ⟨gq, hgq⟩ : ∃ gq, s.gone[i].seq = gq := ⟨_, rfl⟩
      obtain ⟨gz, hgz⟩ : ∃ gz, s.gone[i].size = gz := ⟨_, rfl⟩
      obtain ⟨gr, hgr'⟩ : ∃ gr, s.gone[i].ready = gr := ⟨_, rfl⟩
      obtain ⟨gs, hgs⟩ : ∃ gs, s.gone[i].start = gs := ⟨_, rfl⟩
      rw [hgf] at e0 f0 f1
      rw [hgq] at e1 hgq0
      rw [hgz] at e2 z0 z1
      rw [hgr'] at e3 r0 r1
      rw [hgs] at e4 r1 r2
      rw [hgs, hgz] at e5
      have HF := hide hgf
      have HQ2 := hide hgq
      have HZg := hide hgz
      have HRg := hide hgr'
      have HSg := hide hgs
      have hwz : IntKind.i64.wrap (gs + gz) = gs + gz := by go_arith
      have hd2 : decide (gs < gr) = false := by simp; omega
      have hd4 : decide (gf < -1) = false := by simp; omega
      have hd5 : decide ((nf : Int) ≤ gf) = false := by simp; omega
      have cA : ∀ (p j : Nat), p < wr.heap.size → ∀ ob, (wr.alloc ob).cell? ⟨p, j, none⟩ = wr.cell? ⟨p, j, none⟩ := fun p j hp ob => World.cell?_alloc_past ob p j hp
      have d4A := fun ob => (cA b 4 hbr ob).trans d4
      have d1A := fun ob => (cA b 1 hbr ob).trans d1
      clear hgf hgq hgz hgr' hgs hbel hrow
      go_upto_region 14 with fail
      go_cut [9, 10, 99] from 36 to 221 (fun c a v wx => c = .int .i64 (((s.gone.take i).countP (ofk (-1)) : Nat) : Int) ∧ a = .int .i64 (i : Int) ∧ v = .bool false ∧ ∃ q, wx = (wr.alloc (.cells #[.int .i64 gf, .int .i64 gq, .int .i64 gz, .int .i64 gr, .int .i64 gs, .int .i64 (gs + gz)] 63)).drewN q)
      case first =>
        as_aux_lemma =>
          rcases Nat.eq_zero_or_pos i with h0 | h0
          · go_quiet (fail)
            go_wp2_with fail
            go_meet
            exact ⟨by subst h0; rfl, by subst h0; rfl, rfl, _, rfl⟩
          · obtain ⟨m, hm⟩ : ∃ m, i = m + 1 := ⟨i - 1, by omega⟩
            obtain ⟨pc, pl⟩ := unhide HPrev m hm
            rw [unhide HSg] at pl
            have pcA := fun ob => (cA gg (m * 6 + 5) hgr ob).trans pc
            have hd3 : decide ((0 : Int) < (i : Int)) = true := by simp; omega
            generalize (s.gone[m]'(by omega)).start + (s.gone[m]'(by omega)).size = pe at *
            have hd6 : decide (gs < pe) = false := by simp; omega
            have hwm : IntKind.i64.wrap ((i : Int) - 1) = (m : Int) := by go_arith
            have hmn : (m : Int) < (n : Int) := by omega
            go_quiet (fail)
            go_wp2_with fail
            go_meet
            exact ⟨by subst hm; rfl, by subst hm; rfl, rfl, _, rfl⟩
      case rest =>
        obtain ⟨rfl, rfl, rfl, q, rfl⟩ := hcut
        have HBA := hide (show Below w4.heap.size w4 ((wr.alloc (.cells #[.int .i64 gf, .int .i64 gq, .int .i64 gz, .int .i64 gr, .int .i64 gs, .int .i64 (gs + gz)] 63)).drewN q) from bel_drewN ((unhide HB).trans ((bel_one _).mono (unhide HB).size)) q)
        have HRA := hide (show ((wr.alloc (.cells #[.int .i64 gf, .int .i64 gq, .int .i64 gz, .int .i64 gr, .int .i64 gs, .int .i64 (gs + gz)] 63)).drewN q).ownsRow 0 3 1 (.slice (some ⟨w4.heap.size, 0, none⟩) nf nf) nf (ncs s i) from World.ownsRow.alloc (unhide HRow) _)
        have hIg : Is ((wr.alloc (.cells #[.int .i64 gf, .int .i64 gq, .int .i64 gz, .int .i64 gr, .int .i64 gs, .int .i64 (gs + gz)] 63)).drewN q) wr.heap.size 63 #[.int .i64 gf, .int .i64 gq, .int .i64 gz, .int .i64 gr, .int .i64 gs, .int .i64 (gs + gz)] := Is.new wr _ _
        have HIg := hide hIg
        have g0 := hIg.cell (j := 0) rfl
        have g1 := hIg.cell (j := 1) rfl
        have g2 := hIg.cell (j := 2) rfl
        have g3 := hIg.cell (j := 3) rfl
        have b1 := (show ((wr.alloc (.cells #[.int .i64 gf, .int .i64 gq, .int .i64 gz, .int .i64 gr, .int .i64 gs, .int .i64 (gs + gz)] 63)).drewN q).cell? ⟨b, 1, none⟩ = _ from d1A _)
        have b3 := (show ((wr.alloc (.cells #[.int .i64 gf, .int .i64 gq, .int .i64 gz, .int .i64 gr, .int .i64 gs, .int .i64 (gs + gz)] 63)).drewN q).cell? ⟨b, 3, none⟩ = some (.slice ao no co) from (cA b 3 hbr _).trans d3)
        have b4 := (show ((wr.alloc (.cells #[.int .i64 gf, .int .i64 gq, .int .i64 gz, .int .i64 gr, .int .i64 gs, .int .i64 (gs + gz)] 63)).drewN q).cell? ⟨b, 4, none⟩ = _ from d4A _)
        have hXw : w4.heap.size < wr.heap.size := (ownsRow_lt (unhide HRow) w4.heap.size rfl).2
        have hXlt : wr.heap.size < ((wr.alloc (.cells #[.int .i64 gf, .int .i64 gq, .int .i64 gz, .int .i64 gr, .int .i64 gs, .int .i64 (gs + gz)] 63)).drewN q).heap.size := by show wr.heap.size < (wr.alloc _).heap.size; rw [World.size_alloc]; omega
        clear hIg d1 d3 d4 d1A d4A e0 e1 e2 e3 e4 e5 cA HPrev hgr hbr
        generalize (wr.alloc (.cells #[.int .i64 gf, .int .i64 gq, .int .i64 gz, .int .i64 gr, .int .i64 gs, .int .i64 (gs + gz)] 63)).drewN q = wA at *
        generalize wr.heap.size = X at *
        have b2 : wA.cell? ⟨b, 2, none⟩ = some (.slice ae inn.length ce) := ((unhide HBA).cell hbl).trans ((unhide HV).blk.cell (j := 2) rfl)
        by_cases hneg : gf < 0
        · have hdn : decide (gf < 0) = true := by simpa using hneg
          have hgm : gf = -1 := by omega
          have hno := (unhide HEnd).1.no s.gone[i] (List.getElem_mem hil) (by rw [unhide HF]; exact hneg)
          have hsq := unhide HSq
          rw [unhide HF, unhide HQ2, hgm] at hsq
          rw [unhide HQ2, unhide HZg, hsq, Int.toNat_natCast] at hno
          have HNc := hide (show ncs s (i + 1) = ncs s i from ncs_none hil (by rw [unhide HF]; exact hneg))
          have HCn := hide (show (((s.gone.take (i + 1)).countP (ofk (-1)) : Nat) : Int) = (((s.gone.take i).countP (ofk (-1)) : Nat) : Int) + 1 from by rw [take_count hil, if_pos (by rw [unhide HF]; exact hgm)]; rfl)
          have hcl : (s.gone.take i).countP (ofk (-1)) < s.other.length := (List.getElem?_eq_some_iff.1 hno).1
          obtain ⟨gob, cgo, hov, hoc⟩ := row_cell (unhide HV).ot.1 (by omega)
          simp only [Value.slice.injEq] at hov
          obtain ⟨rfl, _, rfl⟩ := hov
          have hol : gob < w4.heap.size := (ownsRow_lt (unhide HV).ot.1 gob rfl).2
          have o0 := ((unhide HBA).cell (p := ⟨gob, (s.gone.take i).countP (ofk (-1)), none⟩) hol).trans (hoc _ (.int .i64 gz) (by unfold icells; rw [List.getElem?_map, hno]; rfl))
          rw [unhide HNo] at hcl
          generalize (s.gone.take i).countP (ofk (-1)) = cn at *
          subst hsq
          have hcn : (cn : Int) < (no : Int) := by omega
          have hdo : decide ((no : Int) ≤ (cn : Int)) = false := by simp; omega
          have hcb : (cn : Int) ≤ 1000000000 := by have := (unhide HEnd).2.1.ot; rw [unhide HNo] at this; omega
          clear hgm hno hoc
          as_aux_lemma =>
            go_wp2_with fail
            go_quiet (fail)
            go_wp2_with fail
            go_roundw
            case rel => exact ⟨i + 1, by omega, by go_num, by rw [unhide HCn], bel_drewN (unhide HBA) _, by rw [unhide HNc]; exact unhide HRA⟩
            case measure => simp [intOf]; omega
        · have hdn : decide (gf < 0) = false := by simpa using hneg
          obtain ⟨k, hk⟩ : ∃ k : Nat, gf = (k : Int) := ⟨gf.toNat, by omega⟩
          obtain ⟨gn, hgn⟩ : ∃ gn : Nat, gq = (gn : Int) := ⟨gq.toNat, by omega⟩
          have hk1 : k < s.fl.length := by rw [unhide HNf]; omega
          have hsq := unhide HSq
          rw [unhide HF, unhide HQ2, hk] at hsq
          obtain ⟨ls, hl1, hl2⟩ := (unhide HEnd).1.fl s.gone[i] (List.getElem_mem hil) (by rw [unhide HF]; omega)
          rw [unhide HF, hk, Int.toNat_natCast] at hl1
          rw [unhide HQ2, hgn, Int.toNat_natCast, unhide HZg] at hl2
          have HNs := hide (show ncs s (i + 1) = (ncs s i).set k (.int .i64 (gq + 1)) from by rw [ncs_some (unhide HEnd).1 hil (k := k) (by rw [unhide HF]; exact hk), unhide HQ2])
          have HCn := hide (show (((s.gone.take (i + 1)).countP (ofk (-1)) : Nat) : Int) = (((s.gone.take i).countP (ofk (-1)) : Nat) : Int) from by rw [take_count hil, if_neg (by rw [unhide HF]; omega)]; rfl)
          have hnx : wA.cell? ⟨w4.heap.size, k, none⟩ = some (.int .i64 gq) := by
            have h1 := row_at (unhide HRA) (ncs_get s i hk1)
            rw [show nxt s i k = gq from hsq.symm] at h1
            exact h1
          have hnb : wA.frozen? ⟨w4.heap.size, k, none⟩ = false := by
            rcases (unhide HRA).2 with ⟨c, _⟩ | ⟨g', cap', cur, c1, _, c3, _⟩
            · cases c
            · simp only [Value.slice.injEq, Option.some.injEq, Addr.mk.injEq] at c1
              rw [c1.1.1]
              exact Is.frozen (show Is wA g' 3 cur from c3) k
          obtain ⟨vk, hvk, hrk⟩ := (unhide HV).ins k ls hl1
          have hni : inn.length = nf := by rw [(unhide HV).il, (unhide HEnd).2.2.se, unhide HNf]
          obtain ⟨ge, cge, hev, hec⟩ := row_cell (unhide HV).se.1 (by rw [hni, ← unhide HNf]; omega)
          simp only [Value.slice.injEq] at hev
          obtain ⟨rfl, _, rfl⟩ := hev
          have hel : ge < w4.heap.size := (ownsRow_lt (unhide HV).se.1 ge rfl).2
          have hgls : gn < ls.length := (List.getElem?_eq_some_iff.1 hl2).1
          obtain ⟨gl, cgl, hkv, hlc⟩ := row_cell hrk.1 (by omega)
          have hll : gl < w4.heap.size := (ownsRow_lt hrk.1 gl (by rw [hkv]; rfl)).2
          have s0 := ((unhide HBA).cell (p := ⟨ge, k, none⟩) hel).trans (hec _ _ hvk)
          rw [hkv] at s0
          have s1 := ((unhide HBA).cell (p := ⟨gl, gn, none⟩) hll).trans (hlc _ (.int .i64 gz) (by unfold icells; rw [List.getElem?_map, hl2]; rfl))
          rw [hni] at b2
          generalize ls.length = nl at *
          have hrowl := (ownsRow_lt (unhide HRA) w4.heap.size rfl).2
          obtain ⟨gf', hgf'⟩ : ∃ z : Int, z = gf := ⟨gf, rfl⟩
          subst hk
          subst hgn
          have hknf : (k : Int) < (nf : Int) := by omega
          have hgnl : (gn : Int) < (nl : Int) := by omega
          have hdl : decide ((nl : Int) ≤ (gn : Int)) = false := by simp; omega
          have hgn1 : (gn : Int) ≤ 1000000000 := by
            have h1 : ((s.gone.take i).countP (ofk (k : Int))) ≤ (s.gone.take i).length := List.countP_le_length
            rw [List.length_take] at h1
            omega
          have hwq : IntKind.i64.wrap ((gn : Int) + 1) = (gn : Int) + 1 := by go_arith
          have HFc := hide (show 0 ≤ gr ∧ gr ≤ gs ∧ gs < s.x.now ∧ s.x.now ≤ 100000 ∧ (nf : Int) ≤ 106 ∧ (n : Int) ≤ 1000000000 ∧ i < n ∧ b < w4.heap.size ∧ gg < w4.heap.size ∧ w4.heap.size < X ∧ X < wA.heap.size ∧ w4.heap.size < wA.heap.size ∧ k < s.fl.length ∧ i < s.gone.length from ⟨r0, r1, r2, hnow, hnf1, hn1, hx, hbl, hgl, hXw, hXlt, hrowl, hk1, hil⟩)
          have HB1' := hide b1
          have HB4' := hide b4
          have HG3 := hide g3
          have HNx := hide hnx
          have HNb := hide hnb
          clear hsq hl1 hl2 hvk hrk hec hkv hlc hgf' gf' r0 r1 r2 hnow hnf1 hn1 hbl hgl hXw hXlt hrowl hk1 b1 b4 g3 b3 z0 z1 f0 hgq0 hwz hd2 hd4 hd5 hni hel hll hi hneg hgn1 hnb hii
          have hkn : k < nf := by omega
          have hdl2 : decide (nl ≤ gn) = false := by simp; omega
          go_upto_region 20 with fail
          go_cut [168] from 36 to 221 (fun v wx => v = .bool false ∧ ∃ q, wx = wA.drewN q)
          case first =>
            as_aux_lemma =>
              go_quiet (fail)
              go_wp2_with fail
              go_meet
              exact ⟨rfl, _, rfl⟩
          case rest =>
            as_aux_lemma =>
              obtain ⟨rfl, q, rfl⟩ := hcut
              have HB2 := hide (show Below w4.heap.size w4 (wA.drewN q) from bel_drewN (unhide HBA) q)
              have HR2 := hide (show (wA.drewN q).ownsRow 0 3 1 (.slice (some ⟨w4.heap.size, 0, none⟩) nf nf) nf (ncs s i) from unhide HRA)
              have HI2 := hide (show Is (wA.drewN q) X 63 #[.int .i64 (k : Int), .int .i64 (gn : Int), .int .i64 gz, .int .i64 gr, .int .i64 gs, .int .i64 (gs + gz)] from unhide HIg)
              have hnx2 : (wA.drewN q).cell? ⟨w4.heap.size, k, none⟩ = some (.int .i64 (gn : Int)) := unhide HNx
              have hnb2 : (wA.drewN q).frozen? ⟨w4.heap.size, k, none⟩ = false := unhide HNb
              have k0 : (wA.drewN q).cell? ⟨X, 0, none⟩ = some (.int .i64 (k : Int)) := g0
              have k1 : (wA.drewN q).cell? ⟨X, 1, none⟩ = some (.int .i64 (gn : Int)) := g1
              obtain ⟨r0, r1, r2, hnow, hnf1, hn1, _, hbl, hgl, hXw, hXlt, hrowl, hk1, _⟩ := unhide HFc
              have hXlt2 : X < (wA.drewN q).heap.size := hXlt
              clear g0 g1 g2 b2 s0 s1 hnx hgls hdl hdl2 hgnl HBA HRA HIg HNx HNb
              generalize wA.drewN q = wB at *
              have HR3 := hide (show (wB.setCell ⟨w4.heap.size, k, none⟩ (.int .i64 ((gn : Int) + 1))).ownsRow 0 3 1 (.slice (some ⟨w4.heap.size, 0, none⟩) nf nf) nf (ncs s (i + 1)) from by rw [unhide HNs]; exact ownsRow_set (unhide HR2))
              have hO3 : Only (fun i => i = w4.heap.size) wB (wB.setCell ⟨w4.heap.size, k, none⟩ (.int .i64 ((gn : Int) + 1))) := only_set _ _ _ _
              have HB3 := hide (show Below w4.heap.size w4 (wB.setCell ⟨w4.heap.size, k, none⟩ (.int .i64 ((gn : Int) + 1))) from (unhide HB2).trans (hO3.below (unhide HB2).size (fun j hj e => by omega)))
              have HI3 := hide ((unhide HI2).far (g := w4.heap.size) (o := k) (v := .int .i64 ((gn : Int) + 1)) (by omega))
              clear hO3 HR2 HB2 HI2
              go_wp2_with fail
              generalize (wB.setCell ⟨w4.heap.size, k, none⟩ (.int .i64 ((gn : Int) + 1))) = wC at *
              clear hnx2 hnb2 k0 k1 hXlt2 hXlt hrowl hwq HNs hdn hknf hkn f1
              as_aux_lemma =>
                go_loopw [12] (fun a wx => ∃ j : Nat, j ≤ i + 1 ∧ a = .int .i64 (j : Int) ∧ Below wC.heap.size wC wx) (fun a _ => i + 1 - (intOf a).toNat)
                case atStart => exact ⟨0, Nat.zero_le _, rfl, Below.refl _ _⟩
                case round =>
                  obtain ⟨j, hj, rfl, hbx⟩ := hrel
                  have HBx := hide hbx
                  by_cases hji : j ≤ i
                  · have hBw : Below w4.heap.size w4 wr := (unhide HB3).trans (hbx.mono (unhide HB3).size)
                    have HBw := hide hBw
                    obtain ⟨hf, y1, y2, hr, y4, y5, S, d4, d1, e0, e1, e2, e3, e4, e5, hSm, h00, hCon⟩ := inner_facts (unhide HK) (unhide HV) (unhide HEnd) (unhide HN) (unhide HNf) i j k gr hil hji (unhide HF) (unhide HRg) wr hBw
                    have HSm := hide hSm
                    have HCon := hide hCon
                    have hjn : (j : Int) < (n : Int) := by omega
                    have HIx := hide ((unhide HI3).below hbx)
                    have hXx : X < wr.heap.size := (unhide HIx).lt
                    clear hSm hCon hbx hBw hXw
                    go_wp2_with fail
                    refine (unhide HSm _ (bel_then (unhide HBw) (bel_one _))).mono ?_
                    rintro e w6 ⟨rfl, hb6⟩
                    have hIY : Is w6 wr.heap.size 63 #[.int .i64 hf, .int .i64 y1, .int .i64 y2, .int .i64 hr, .int .i64 y4, .int .i64 y5] := (Is.new wr _ _).below hb6
                    have hIX := ((unhide HIx).alloc (.cells #[.int .i64 hf, .int .i64 y1, .int .i64 y2, .int .i64 hr, .int .i64 y4, .int .i64 y5] 63)).below hb6
                    have HB6 := hide (bel_then (unhide HBw) (bel_then (bel_one (w := wr) _) hb6))
                    have HB7 := hide (bel_then (unhide HBx) (bel_then (bel_one (w := wr) _) hb6))
                    have x0 := hIX.cell (j := 0) rfl
                    have x3 := hIX.cell (j := 3) rfl
                    have t0 := hIY.cell (j := 0) rfl
                    have t3 := hIY.cell (j := 3) rfl
                    have HIX := hide hIX
                    have HIY := hide hIY
                    clear hb6 hIX hIY d4 d1 e0 e1 e2 e3 e4 e5 HSm HBw HBx hXx HIx
                    generalize wr.heap.size = Y at *
                    go_upto_region 28 with fail
                    go_cut [221] from 176 to 221 (fun v wx => v = .bool false ∧ Below w6.heap.size w6 wx)
                    case first =>
                      as_aux_lemma =>
                        by_cases hfk : hf = (k : Int)
                        · obtain ⟨p0, p1, p2, p3, p4, gfb, haf, hgfb, hcs, hle, hmy, hsum⟩ := unhide HCon hfk
                          subst hfk
                          subst haf
                          have HSS := hide (show ∀ w', Below w6.heap.size w6 w' → (fun w' : World => Below w6.heap.size w6 w' ∧ w'.cell? ⟨X, 0, none⟩ = some (.int .i64 (k : Int)) ∧ w'.cell? ⟨X, 3, none⟩ = some (.int .i64 gr) ∧ w'.cell? ⟨Y, 0, none⟩ = some (.int .i64 (k : Int)) ∧ w'.cell? ⟨Y, 3, none⟩ = some (.int .i64 hr) ∧ w'.cell? ⟨b, 1, none⟩ = some (.slice (some ⟨gfb, 0, none⟩) nf cf) ∧ w'.cell? ⟨gfb, k * 5, none⟩ = some (.int .i64 p0) ∧ w'.cell? ⟨gfb, k * 5 + 1, none⟩ = some (.int .i64 p1) ∧ w'.cell? ⟨gfb, k * 5 + 2, none⟩ = some (.int .i64 p2) ∧ w'.cell? ⟨gfb, k * 5 + 3, none⟩ = some (.int .i64 p3) ∧ w'.cell? ⟨gfb, k * 5 + 4, none⟩ = some (.int .i64 p4)) w' from fun w' hb => by
                            have h1 := (unhide HIX).below hb
                            have h2 := (unhide HIY).below hb
                            have h4 := bel_then (unhide HB6) hb
                            obtain ⟨m0, m1, m2, m3, m4⟩ := hcs w' h4
                            exact ⟨hb, h1.cell (j := 0) rfl, h1.cell (j := 3) rfl, h2.cell (j := 0) rfl, h2.cell (j := 3) rfl, by rw [← unhide HNf]; exact (h4.cell hbl).trans ((unhide HV).blk.cell (j := 1) rfl), m0, m1, m2, m3, m4⟩)
                          have HMs := hide (fun (V : World) (hV : Below w6.heap.size w6 V) => kmost_ok p0 p1 p2 p3 p4 (gr - hr) V (Sts.below (unhide HSt) (bel_then (unhide HB4) (bel_then (unhide HB6) hV))) hmy (by omega))
                          have hdr : decide (gr < hr) = false := by simp; omega
                          have hds : decide (allow p0 p1 p2 p3 (gr - hr) < S) = false := by simp; omega
                          have hwt : IntKind.i64.wrap (gr - hr) = gr - hr := by go_arith
                          have hkn2 : k < nf := by rw [← unhide HNf]; exact hk1
                          have hkn3 : (k : Int) < (nf : Int) := by omega
                          clear hcs hle hmy hsum x0 x3 t0 t3 HCon hk1
                          generalize allow p0 p1 p2 p3 (gr - hr) = am at *
                          go_region_held3 (fun w' : World => Below w6.heap.size w6 w' ∧ w'.cell? ⟨X, 0, none⟩ = some (.int .i64 (k : Int)) ∧ w'.cell? ⟨X, 3, none⟩ = some (.int .i64 gr) ∧ w'.cell? ⟨Y, 0, none⟩ = some (.int .i64 (k : Int)) ∧ w'.cell? ⟨Y, 3, none⟩ = some (.int .i64 hr) ∧ w'.cell? ⟨b, 1, none⟩ = some (.slice (some ⟨gfb, 0, none⟩) nf cf) ∧ w'.cell? ⟨gfb, k * 5, none⟩ = some (.int .i64 p0) ∧ w'.cell? ⟨gfb, k * 5 + 1, none⟩ = some (.int .i64 p1) ∧ w'.cell? ⟨gfb, k * 5 + 2, none⟩ = some (.int .i64 p2) ∧ w'.cell? ⟨gfb, k * 5 + 3, none⟩ = some (.int .i64 p3) ∧ w'.cell? ⟨gfb, k * 5 + 4, none⟩ = some (.int .i64 p4))
                            (first | exact unhide HSS _ (Below.refl _ _).drew | exact unhide HSS _ (bel_then (And.left (by assumption)) (by assumption)) | assumption)
                            (first | (go_at_call 23; refine (unhide HMs _ (And.left (by assumption))).mono ?_; rintro e w7 ⟨rfl, hb7⟩))
                          all_goals
                            have HB8 := hide (show Below w6.heap.size w6 w7 from bel_then (Below.refl _ _).drew hb7)
                            clear hb7 HSS HMs
                            go_wp2_with fail
                            go_meet
                            exact ⟨rfl, unhide HB8⟩
                        · have hdf : (hf == (k : Int)) = false := by simpa using hfk
                          clear hfk HCon
                          go_quiet (fail)
                          go_wp2_with fail
                          go_meet
                          exact ⟨rfl, bel_drewN (Below.refl _ _) _⟩
                    case rest =>
                      obtain ⟨rfl, hbw⟩ := hcut
                      have HB8 := hide (bel_then (unhide HB7) hbw)
                      clear hbw x0 x3 t0 t3 h00 HCon HIX HIY HB6 HB7
                      go_wp2_with fail
                      go_roundw
                      case rel => exact ⟨j + 1, by omega, by go_num, unhide HB8⟩
                      case measure => simp [intOf]; omega
                  · have hje : j = i + 1 := by omega
                    have hdj : decide ((j : Int) ≤ (i : Int)) = false := by simp; omega
                    have hdj2 : decide (j ≤ i) = false := by simp; omega
                    have HJe := hide hje
                    have hBw : Below w4.heap.size w4 wr := (unhide HB3).trans (hbx.mono (unhide HB3).size)
                    have HBw := hide hBw
                    have HRw := hide (show wr.ownsRow 0 3 1 (.slice (some ⟨w4.heap.size, 0, none⟩) nf nf) nf (ncs s (i + 1)) from ownsRow_below (unhide HR3) hbx)
                    clear hje hbx hBw hj
                    go_wp2_with fail
                    go_roundw
                    case rel => exact ⟨i + 1, by omega, by go_num, by rw [unhide HCn], unhide HBw, unhide HRw⟩
                    case measure => simp [intOf]; omega
    · have hin : i = n := by omega
      have HAl := hide (show s.gone.countP (ofk (-1)) = no from by rw [(unhide HEnd).1.al, unhide HNo])
      have hcnt : (((s.gone.take i).countP (ofk (-1)) : Nat) : Int) = (no : Int) := by rw [List.take_of_length_le (by rw [unhide HN]; omega), unhide HAl]
      rw [hcnt]
      clear hbel hrow hcnt
      go_wp2_with fail
      go_ret
      exact ⟨rfl, line_belowO (unhide HB4) (unhide HB)⟩
end Go.Proofs.YtcnmajndackohaaGreatDoor
