/-
  What Fits answers: true.
-/
import Derived.Test.YtcnmajndackohaaDoorFitK
import Derived.Test.YtcnmajndackohaaDoorFitsM
import Derived.Test.YtcnmajndackohaaDoorThree
import Derived.Deep.DeepCutAuto
namespace Go.Proofs.YtcnmajndackohaaDoor
open Go.RowKit
attribute [local go_sem ↓] Go.wp_at_zero Go.wp_at_succ

theorem most_G (s p b r d t : Int) (a0 a1 : Addr) (w : World) (hg : Gl w a0 a1) (hm : May s p b r d) (t1 : t ≤ 100000) :
    Calls Tryd.prog 7 #[.agg #[.int .i64 s, .int .i64 p, .int .i64 b, .int .i64 r, .int .i64 d], .int .i64 t] w fun e w' => e = .returned (.int .i64 (allow s p b r t)) ∧ Below w.heap.size w w' :=
  kmost_ok s p b r d t w hg.st hm t1

theorem heldL_below {w0 W w1 : World} {a0 a1 : Addr} {g o : Nat} {c0 c1 c2 c3 c4 : Value} (hb : Below W.heap.size W w1)
    (h : W.cell? ⟨g, o, none⟩ = some c0 ∧ W.cell? ⟨g, o + 1, none⟩ = some c1 ∧ W.cell? ⟨g, o + 2, none⟩ = some c2 ∧ W.cell? ⟨g, o + 3, none⟩ = some c3 ∧ W.cell? ⟨g, o + 4, none⟩ = some c4 ∧ g < W.heap.size ∧ Gl W a0 a1 ∧ Below w0.heap.size w0 W) :
    w1.cell? ⟨g, o, none⟩ = some c0 ∧ w1.cell? ⟨g, o + 1, none⟩ = some c1 ∧ w1.cell? ⟨g, o + 2, none⟩ = some c2 ∧ w1.cell? ⟨g, o + 3, none⟩ = some c3 ∧ w1.cell? ⟨g, o + 4, none⟩ = some c4 ∧ g < w1.heap.size ∧ Gl w1 a0 a1 ∧ Below w0.heap.size w0 w1 := by
  obtain ⟨h0, h1, h2, h3, h4, h5, h6, h7⟩ := h
  obtain ⟨hc, _⟩ := bcell hb
  have := hb.size
  exact ⟨(hc _ _ h5).trans h0, (hc _ _ h5).trans h1, (hc _ _ h5).trans h2, (hc _ _ h5).trans h3, (hc _ _ h5).trans h4, by omega, h6.below hb, bel_then h7 hb⟩
theorem heldL_gl {w0 W : World} {a0 a1 : Addr} {g o : Nat} {c0 c1 c2 c3 c4 : Value}
    (h : W.cell? ⟨g, o, none⟩ = some c0 ∧ W.cell? ⟨g, o + 1, none⟩ = some c1 ∧ W.cell? ⟨g, o + 2, none⟩ = some c2 ∧ W.cell? ⟨g, o + 3, none⟩ = some c3 ∧ W.cell? ⟨g, o + 4, none⟩ = some c4 ∧ g < W.heap.size ∧ Gl W a0 a1 ∧ Below w0.heap.size w0 W) : Gl W a0 a1 := h.2.2.2.2.2.2.1
theorem gl_drew {W : World} {a0 a1 : Addr} (h : Gl W a0 a1) : Gl W.drew a0 a1 := ⟨h.e0, h.e1, h.et, h.h0, h.h1, h.ne, h.st, let ⟨a, k⟩ := h.sn; ⟨a, k.drew⟩⟩
theorem heldL_drew {w0 W : World} {a0 a1 : Addr} {g o : Nat} {c0 c1 c2 c3 c4 : Value}
    (h0 : W.cell? ⟨g, o, none⟩ = some c0) (h1 : W.cell? ⟨g, o + 1, none⟩ = some c1) (h2 : W.cell? ⟨g, o + 2, none⟩ = some c2) (h3 : W.cell? ⟨g, o + 3, none⟩ = some c3) (h4 : W.cell? ⟨g, o + 4, none⟩ = some c4) (h5 : g < W.heap.size) (h6 : Gl W a0 a1) (h7 : Below w0.heap.size w0 W) :
    W.drew.cell? ⟨g, o, none⟩ = some c0 ∧ W.drew.cell? ⟨g, o + 1, none⟩ = some c1 ∧ W.drew.cell? ⟨g, o + 2, none⟩ = some c2 ∧ W.drew.cell? ⟨g, o + 3, none⟩ = some c3 ∧ W.drew.cell? ⟨g, o + 4, none⟩ = some c4 ∧ g < W.drew.heap.size ∧ Gl W.drew a0 a1 ∧ Below w0.heap.size w0 W.drew :=
  ⟨h0, h1, h2, h3, h4, h5, gl_drew h6, h7.drew⟩

set_option maxRecDepth 100000 in
set_option maxHeartbeats 8000000 in
theorem fits_some (v : Value) (rl : List Fl) (which more at' : Int) (a0 a1 : Addr) (w : World) (hg : Gl w a0 a1) (hw : Fls w v rl) (hr : ∀ f ∈ rl, Raw f) (hl : rl.length ≤ maxLen) (h1 : R64 which) (h2 : R64 more) (h3 : R64 at') (hne : 0 < rl.length) :
    Calls Tryd.prog 4 #[v, .int .i64 which, .int .i64 more, .int .i64 at'] w fun e w' => e = .returned (.bool true) ∧ Below w.heap.size w w' := by
  have HG := hide hg
  have HW := hide hw
  have HR := hide hr
  have HL := hide hl
  have H1 := hide h1
  have H2 := hide h2
  have H3 := hide h3
  clear hg hw hr hl h1 h2 h3
  have HM := hide (show ∀ f ∈ (rl.take 6).map mk, f.may from fun f hf => by
    obtain ⟨g, _, rfl⟩ := List.mem_map.1 hf
    exact mk_may g)
  have hn6 : ((rl.take 6).map mk).length ≤ 6 := by simp; omega
  have hn0 : 0 < ((rl.take 6).map mk).length := by simp; omega
  clear hne
  go_enter Tryd.func4, Tryd.ntmps4
  go_wp2_with fail
  refine (flows_F v rl _ (unhide HW) (unhide HR) (unhide HL)).mono ?_
  rintro e w1 ⟨v9, rfl, hown, hb⟩
  generalize (rl.take 6).map mk = l at *
  obtain ⟨g, cap, rfl, hgb, hgl⟩ := World.ownsRow.form hown hn0
  have HO := hide hown
  have HB1 := hide hb
  have HG1 := hide ((unhide HG).below hb)
  clear hown hb HW HR HL HG hgb hgl
  go_wp2_with fail
  refine (kfit_any _ l a0 a1 _ (unhide HG1) (unhide HO).fls hn6 (unhide HM)).mono ?_
  rintro e w2 ⟨rfl, hb⟩
  have HO2 := hide ((unhide HO).below hb)
  have HB2 := hide (bel_then (unhide HB1) hb)
  have HG2 := hide ((unhide HG1).below hb)
  clear hb HO HB1 HG1
  have hvr := viol_range l
  have HV := hide (viol_spec l)
  have HF := hide (show decide (viol l = 0) = decide (viol l = 0) from rfl)
  generalize hVl : viol l = V at *
  have HVl := hide hVl
  clear hVl
  generalize hFine : decide (V = 0) = fine at *
  have HFine := hide hFine
  clear hFine
  go_wp2_with fail
  refine (pick_any at' 600 _ (unhide H3).lo (unhide H3).hi (by decide) (by decide)).mono ?_
  rintro e w3 ⟨rfl, rfl⟩
  have a0' := pk_nonneg at' 600 (by decide)
  have a1' := pk_lt at' 600 (by decide)
  generalize pk at' 600 = at0 at *
  go_wp2_with fail
  have HLi := hide (show Lies w3 g 0 l from by
    rcases (unhide HO2).fls with ⟨e, _⟩ | ⟨b, o, c, e, h⟩
    · rw [e] at hn0; exact absurd hn0 (by decide)
    · simp only [Value.slice.injEq, Option.some.injEq, Addr.mk.injEq] at e
      obtain ⟨⟨rfl, rfl, _⟩, _, _⟩ := e
      exact h)
  generalize hn : l.length = n at *
  have HN := hide hn
  clear hn
  go_loopw [13, 15, 16] (fun s q i wr => ∃ k : Nat, k ≤ n ∧ i = .int .i64 k ∧ s = .int .i64 (tot V (l.take k)) ∧ q = .int .i64 (tot (1 + at0) (l.take k)) ∧ Below w3.heap.size w3 wr) (fun _ _ i _ => n - (intOf i).toNat)
  case atStart => exact ⟨0, Nat.zero_le _, rfl, rfl, rfl, Below.refl _ _⟩
  case round =>
    obtain ⟨k, hk, rfl, rfl, rfl, hbel⟩ := hrel
    by_cases hlt : k < n
    · have hkl : k < l.length := by rw [unhide HN]; exact hlt
      have hmay := unhide HM l[k] (List.getElem_mem hkl)
      have hb1 := tot_bd (l := l.take k) (fun f hf => unhide HM f (List.mem_of_mem_take hf)) V (by omega)
      have hb2 := tot_bd (l := l.take k) (fun f hf => unhide HM f (List.mem_of_mem_take hf)) (1 + at0) (by omega)
      have hlen : (l.take k).length ≤ 6 := by have := List.length_take_le k l; omega
      have heb1 := e_bd hmay V (by omega)
      have heb2 := e_bd hmay (1 + at0) (by omega)
      have hL := (unhide HLi).below hbel
      have q0 := hL.c0 k hkl
      have q1 := hL.c1 k hkl
      have q2 := hL.c2 k hkl
      have q3 := hL.c3 k hkl
      have q4 := hL.c4 k hkl
      have q5 := hL.blk
      have q6 := (unhide HG2).below hbel
      have HT1 := hide (tot_take_succ V l k hkl)
      have HT2 := hide (tot_take_succ (1 + at0) l k hkl)
      have HY := hide hmay
      have HQ6 := hide q6
      have HB := hide hbel
      rw [Nat.zero_add] at q0 q1 q2 q3 q4
      have hi0 : (0 : Int) ≤ (k : Int) := Int.natCast_nonneg _
      have hi1 : (k : Int) < (n : Int) := by omega
      obtain ⟨_, _, _, _, _, _, _, dd0, dd1⟩ := hmay
      clear hL hbel q6
      generalize hf : l[k] = f at *
      clear hf
      unfold Fl.e at heb1 heb2
      generalize tot V (l.take k) = S1 at *
      generalize tot (1 + at0) (l.take k) = S2 at *
      have e1 : IntKind.i64.wrap (V - f.d) = V - f.d := by go_arith
      have e2 : IntKind.i64.wrap (1 + at0 - f.d) = 1 + at0 - f.d := by go_arith
      have e3 : IntKind.i64.wrap (S1 + allow f.s f.p f.b f.r (V - f.d)) = S1 + allow f.s f.p f.b f.r (V - f.d) := by go_arith
      have e4 : IntKind.i64.wrap (S2 + allow f.s f.p f.b f.r (1 + at0 - f.d)) = S2 + allow f.s f.p f.b f.r (1 + at0 - f.d) := by go_arith
      go_wp2_with fail
      go_region_held3 (fun w' => w'.cell? ⟨g, k * 5, none⟩ = some (.int .i64 f.s) ∧ w'.cell? ⟨g, k * 5 + 1, none⟩ = some (.int .i64 f.p) ∧ w'.cell? ⟨g, k * 5 + 2, none⟩ = some (.int .i64 f.b) ∧ w'.cell? ⟨g, k * 5 + 3, none⟩ = some (.int .i64 f.r) ∧ w'.cell? ⟨g, k * 5 + 4, none⟩ = some (.int .i64 f.d) ∧ g < w'.heap.size ∧ Gl w' a0 a1 ∧ Below w3.heap.size w3 w')
        (first | exact heldL_below (by assumption) (by assumption) | exact heldL_drew q0 q1 q2 q3 q4 q5 (unhide HQ6) (unhide HB))
        (first | (go_at_call 7; refine (most_G f.s f.p f.b f.r f.d (V - f.d) a0 a1 _ (heldL_gl (by assumption)) (unhide HY) (by omega)).mono ?_; rintro e w' ⟨rfl, hb'⟩))
      rename_i hH
      obtain ⟨r0, r1, r2, r3, r4, r5, r6, r7⟩ := hH
      have HR6 := hide r6
      have HR7 := hide r7
      clear r6 r7 q0 q1 q2 q3 q4 q5 HQ6 HB hb'
      go_wp2_with fail
      go_region_held3 (fun w' => w'.cell? ⟨g, k * 5, none⟩ = some (.int .i64 f.s) ∧ w'.cell? ⟨g, k * 5 + 1, none⟩ = some (.int .i64 f.p) ∧ w'.cell? ⟨g, k * 5 + 2, none⟩ = some (.int .i64 f.b) ∧ w'.cell? ⟨g, k * 5 + 3, none⟩ = some (.int .i64 f.r) ∧ w'.cell? ⟨g, k * 5 + 4, none⟩ = some (.int .i64 f.d) ∧ g < w'.heap.size ∧ Gl w' a0 a1 ∧ Below w3.heap.size w3 w')
        (first | exact heldL_below (by assumption) (by assumption) | exact heldL_drew r0 r1 r2 r3 r4 r5 (unhide HR6) (unhide HR7))
        (first | (go_at_call 7; refine (most_G f.s f.p f.b f.r f.d (1 + at0 - f.d) a0 a1 _ (heldL_gl (by assumption)) (unhide HY) (by omega)).mono ?_; rintro e w' ⟨rfl, hb'⟩))
      rename_i hH
      have HH := hide hH.2.2.2.2.2.2.2
      clear hH hb' r0 r1 r2 r3 r4 r5
      go_wp2_with fail
      go_roundw
      case rel => exact ⟨k + 1, by omega, by go_num, by rw [unhide HT1]; rfl, by rw [unhide HT2]; rfl, unhide HH⟩
      case measure => simp [intOf]; omega
    · have hkn : k = n := by omega
      subst hkn
      have hT : ∀ t, tot t (l.take k) = tot t l := fun t => by rw [List.take_of_length_le (by rw [unhide HN]; exact Nat.le_refl _)]
      rw [hT, hT]
      have hb1 := tot_bd (unhide HM) V (by omega)
      have hb2 := tot_bd (unhide HM) (1 + at0) (by omega)
      rw [unhide HN] at hb1 hb2
      have HBel := hide hbel
      clear hT hbel hlt
      have hB1 := unhide HV
      have HBad := hide (show vioB l (1 + at0) = (decide (0 < tot (1 + at0) l) && decide (1 + at0 < tot (1 + at0) l + 7)) from rfl)
      have HVV := hide (vioB_iff l V)
      clear hB1
      generalize tot V l = S1 at *
      generalize tot (1 + at0) l = S2 at *
      generalize hbad : vioB l (1 + at0) = bad at *
      have HBd := hide hbad
      clear hbad
      go_upto_region 13 with fail
      go_cut [17] (fun s wq => s = .bool bad ∧ wq = wr)
      case first =>
        by_cases g0 : 0 < S2
        · by_cases g1 : 1 + at0 < S2 + 7
          · have gd : decide (1 + at0 < S2 + 7) = true := by simpa using g1
            go_wp2_with fail
            go_meet
            case rel => exact ⟨by rw [unhide HBad, decide_eq_true g0, gd]; rfl, rfl⟩
          · have gd : decide (1 + at0 < S2 + 7) = false := by simpa using g1
            go_wp2_with fail
            go_meet
            case rel => exact ⟨by rw [unhide HBad, decide_eq_true g0, gd]; rfl, rfl⟩
        · have gd : decide (0 < S2) = false := by simpa using g0
          go_wp2_with fail
          go_meet
          case rel => exact ⟨by rw [unhide HBad, gd]; rfl, rfl⟩
      case rest =>
        obtain ⟨rfl, rfl⟩ := hcut
        go_upto_region 14 with fail
        go_cut [113] (fun s wq => s = .bool false ∧ wq = wc)
        case first =>
          rcases unhide HV with ⟨hv0, hno⟩ | ⟨hv1, hv2, hv3, hno⟩
          · have hf : fine = true := by rw [← unhide HFine]; exact decide_eq_true hv0
            have hbd : bad = false := by rw [← unhide HBd]; exact hno _ (by omega) (by omega)
            subst hf
            subst hbd
            clear hno
            go_wp2_with fail
            go_meet
            case rel => exact ⟨rfl, rfl⟩
          · have hf : fine = false := by rw [← unhide HFine]; exact decide_eq_false (by omega)
            have hS := (unhide HVV).1 hv3
            have hS1 := hS.1
            have hS2 := hS.2
            have hbd : bad = true → ¬ 1 + at0 < V := fun hb hlt => by
              have := hno _ (by omega) hlt
              rw [unhide HBd, hb] at this
              cases this
            subst hf
            clear hno hv3 hS
            cases bad
            · clear hbd
              go_wp2_with fail
              go_meet
              case rel => exact ⟨by rw [decide_eq_false (by omega), decide_eq_false (by omega)]; rfl, rfl⟩
            · have hnl := hbd rfl
              clear hbd
              go_wp2_with fail
              go_meet
              case rel => exact ⟨by rw [decide_eq_false (by omega), decide_eq_false (by omega)]; rfl, rfl⟩
        case rest =>
          obtain ⟨rfl, rfl⟩ := hcut
          have hke : ((k : Int) == 0) = false := beq_eq_false_iff_ne.2 (by omega)
          clear hvr hb1 hb2
          go_wp2_with fail
          refine (pick_any which k _ (unhide H1).lo (unhide H1).hi (by omega) (by omega)).mono ?_
          rintro e w4 ⟨rfl, rfl⟩
          have p0 := pk_nonneg which k (by omega)
          have p1 := pk_lt which k (by omega)
          obtain ⟨q, hq⟩ := Int.eq_ofNat_of_zero_le p0
          rw [hq] at p1 ⊢
          have hqk : q < k := by omega
          clear p0 p1 hq
          go_wp2_with fail
          obtain ⟨i0, hi0, hz0, hz1, hz2⟩ := info_parts infoFlow
          have HI := hide hi0
          have HZ0 := hide hz0
          have HZ1 := hide hz1
          have HZ2 := hide hz2
          clear hi0 hz0 hz1 hz2
          have HLw := hide ((unhide HLi).below (unhide HBel))
          have HGw := hide ((unhide HG2).below (unhide HBel))
          have HBw := hide (bel_then (unhide HB2) (unhide HBel))
          clear HLi HG2 HBel HB2 HO2
          have hd0 := (unhide HM (l.getD q z0) (by rw [getD_eq (by rw [unhide HN]; exact hqk)]; exact List.getElem_mem _)).d0
          have hd1 := (unhide HM (l.getD q z0) (by rw [getD_eq (by rw [unhide HN]; exact hqk)]; exact List.getElem_mem _)).d1
          have hs0 := (unhide HM (l.getD q z0) (by rw [getD_eq (by rw [unhide HN]; exact hqk)]; exact List.getElem_mem _)).s0
          have m0 := pk_nonneg more (101 - (l.getD q z0).d) (by omega)
          have m1 := pk_lt more (101 - (l.getD q z0).d) (by omega)
          have HPick := hide (pick_any more (101 - (l.getD q z0).d))
          generalize pk more (101 - (l.getD q z0).d) = mo at *
          go_loopw [19, 20, 21, 22] (fun x y z i wr => ∃ j : Nat, j ≤ k ∧ i = .int .i64 j ∧ T3 w4 wr x y z (lessTo l q j) (laterTo l q mo j) (turnTo l q j)) (fun _ _ _ i _ => k - (intOf i).toNat)
          case atStart => exact ⟨0, Nat.zero_le _, rfl, World.ownsRow_nil _ _ _ _, World.ownsRow_nil _ _ _ _, World.ownsRow_nil _ _ _ _, fun b hb => by simp [Value.ownBlock] at hb, fun b hb => by simp [Value.ownBlock] at hb, fun b hb => by simp [Value.ownBlock] at hb, Below.refl _ _⟩
          case round =>
            obtain ⟨j, hj, rfl, hT⟩ := hrel
            by_cases hlt : j < k
            · have hjl : j < l.length := by rw [unhide HN]; exact hlt
              have hL := (unhide HLw).below hT.bel
              have hgs : g < wr.heap.size := hL.blk
              have hp : (j + q) % k < k := Nat.mod_lt _ hn0
              have hpl : (j + q) % k < l.length := by rw [unhide HN]; exact hp
              have q0 := hL.c0 j hjl
              have q1 := hL.c1 j hjl
              have q2 := hL.c2 j hjl
              have q3 := hL.c3 j hjl
              have q4 := hL.c4 j hjl
              have r0 := hL.c0 _ hpl
              have r1 := hL.c1 _ hpl
              have r2 := hL.c2 _ hpl
              have r3 := hL.c3 _ hpl
              have r4 := hL.c4 _ hpl
              rw [Nat.zero_add] at q0 q1 q2 q3 q4 r0 r1 r2 r3 r4
              have HEj := hide (getD_eq hjl)
              have HEp := hide (getD_eq hpl)
              have HT := hide hT
              have hpe : ((j : Int) + (q : Int)) % (k : Int) = (((j + q) % k : Nat) : Int) := by rw [Int.natCast_emod, Int.natCast_add]
              have HTu := hide (show turnTo l q (j + 1) = turnTo l q j ++ [l.getD ((j + q) % l.length) z0] from rfl)
              have HLa := hide (show laterTo l q mo (j + 1) = laterTo l q mo j ++ [if j = q then slow (l.getD j z0) mo else l.getD j z0] from rfl)
              have HLe := hide (show lessTo l q (j + 1) = if j = q then lessTo l q j else lessTo l q j ++ [l.getD j z0] from rfl)
              have hl1 := less_len l q j
              have hl2 := later_len l q mo j
              have hl3 := turn_len l q j
              have HL2 := hide hl2
              have HL3 := hide hl3
              have HL1 := hide hl1
              clear hL hT hl1 hl2 hl3
              generalize hP : (j + q) % k = P at *
              have HP := hide hP
              clear hP
              generalize l[j] = f at *
              generalize l[P] = fp at *
              generalize lessTo l q j = l1 at *
              generalize laterTo l q mo j = l2 at *
              generalize turnTo l q j = l3 at *
              have hz1 : (k : Int) ≠ 0 := by omega
              have hzb : ((k : Int) == 0) = false := beq_eq_false_iff_ne.2 hz1
              clear hz1
              go_wp2_with (at_builtin; refine wpList_append_lies _ (by rfl) _ _ 28 (by rfl) w4.heap.size 23 i0 _ 5 40 Tryd.underlying28 (unhide HI) (unhide HZ0) (unhide HZ1) (unhide HZ2) rfl (by omega) _ l3.length (fcells l3) (by rfl) (((unhide HT).new f 23).below (bel_one _)).oz ⟨wr.heap.size + 1, 0, none⟩ 1 1 [.int .i64 fp.s, .int .i64 fp.p, .int .i64 fp.b, .int .i64 fp.r, .int .i64 fp.d] (by rfl) (by rfl) (news_at (by simp)) (by simp [Value.oneCell']) (by omega) (by have := unhide HL3; unfold maxLen; omega) (by have := unhide HL3; omega) (by have := (unhide HT).bel.size; simp; omega) (wr.heap.size + 1 + 1) (by simp) ?_)
              intro gg1 cap1 w5 hown5 hgrow5 hat5 hlt5
              have HT2 := hide ((((unhide HT).new f 23).below (bel_one _)).turn.grown rfl hown5 hgrow5 (by simpa using hat5))
              clear hown5 hgrow5 hat5 hlt5 q0 q1 q2 q3 q4 r0 r1 r2 r3 r4 HT
              generalize wr.heap.size = X at *
              have s0 := (unhide HT2).c0
              have s1 := (unhide HT2).c1
              have s2 := (unhide HT2).c2
              have s3 := (unhide HT2).c3
              have s4 := (unhide HT2).c4
              have s5 := (unhide HT2).lt
              have s6 := (unhide HT2).fz
              generalize hlen1 : l3.length + 1 = n1 at *
              clear hlen1
              by_cases hjq : j = q
              · have hne : ((j : Int) != (q : Int)) = false := by rw [bne_eq_false_iff_eq]; omega
                have hef : l.getD q z0 = f := by rw [← hjq]; exact unhide HEj
                have HPk := hide (show ∀ W, Calls Tryd.prog 6 #[.int .i64 more, .int .i64 (101 - f.d)] W (fun e w' => e = .returned (.int .i64 mo) ∧ w' = W) from fun W => by
                  have := unhide HPick W (unhide H2).lo (unhide H2).hi (by omega) (by omega)
                  rw [hef] at this
                  exact this)
                rw [hef] at m1 hd0 hd1 hs0
                have e5 : IntKind.i64.wrap (101 - f.d) = 101 - f.d := by go_arith
                have e6 : IntKind.i64.wrap (f.d + mo) = f.d + mo := by go_arith
                have HJQ := hide hjq
                clear hef hjq
                go_upto_region 27 with fail
                go_cut [] (fun wz => T4 w4 wz X (slow f mo) (.slice (some ⟨gg1, 0, none⟩) n1 cap1) u19 u20 (l3 ++ [fp]) l1 l2)
                case first =>
                  go_region_with (first | (go_at_call 6; refine (unhide HPk _).mono ?_; rintro e w' ⟨rfl, rfl⟩))
                  all_goals
                    go_wp2_with fail
                    go_meet
                    case rel => exact ((unhide HT2).store (f.d + mo)).drew
                case rest =>
                  have HT3 := hide hcut
                  clear hcut s0 s1 s2 s3 s4 s5 s6 HT2
                  generalize hfs : slow f mo = fs at *
                  have HFS := hide hfs
                  clear hfs
                  have s0 := (unhide HT3).c0
                  have s1 := (unhide HT3).c1
                  have s2 := (unhide HT3).c2
                  have s3 := (unhide HT3).c3
                  have s4 := (unhide HT3).c4
                  have s5 := (unhide HT3).lt
                  go_wp2_with (at_builtin; refine wpList_append_lies _ (by rfl) _ _ 28 (by rfl) w4.heap.size 23 i0 _ 5 40 Tryd.underlying28 (unhide HI) (unhide HZ0) (unhide HZ1) (unhide HZ2) rfl (by omega) _ l2.length (fcells l2) (by rfl) ((unhide HT3).turn.below (bel_one _)).ox ⟨wc.heap.size, 0, none⟩ 1 1 [.int .i64 fs.s, .int .i64 fs.p, .int .i64 fs.b, .int .i64 fs.r, .int .i64 fs.d] (by rfl) (by rfl) (news_at (by simp)) (by simp [Value.oneCell']) (by omega) (by have := unhide HL2; unfold maxLen; omega) (by have := unhide HL2; omega) (by have := (unhide HT3).bel.size; simp; omega) (wc.heap.size + 1) (by simp) ?_)
                  intro gg3 cap3 w7 hown7 hgrow7 hat7 hlt7
                  have HT4 := hide (((unhide HT3).turn.below (bel_one _)).grown rfl hown7 hgrow7 (by simpa using hat7))
                  clear hown7 hgrow7 hat7 hlt7 s0 s1 s2 s3 s4 s5 HT3
                  generalize hlen3 : l2.length + 1 = n3 at *
                  clear hlen3
                  go_wp2_with fail
                  go_roundw
                  case rel =>
                    refine ⟨j + 1, by omega, by go_num, ?_⟩
                    rw [unhide HLe, unhide HLa, unhide HTu, if_pos (unhide HJQ), if_pos (unhide HJQ), unhide HN, unhide HP, unhide HEj, unhide HEp, unhide HFS]
                    exact (unhide HT4).turn.toT3
                  case measure => simp [intOf]; omega
              · have hne : ((j : Int) != (q : Int)) = true := by rw [bne_iff_ne]; omega
                go_wp2_with (at_builtin; refine wpList_append_lies _ (by rfl) _ _ 28 (by rfl) w4.heap.size 23 i0 _ 5 40 Tryd.underlying28 (unhide HI) (unhide HZ0) (unhide HZ1) (unhide HZ2) rfl (by omega) _ l1.length (fcells l1) (by rfl) ((unhide HT2).swap.below (bel_one _)).ox ⟨w5.heap.size, 0, none⟩ 1 1 [.int .i64 f.s, .int .i64 f.p, .int .i64 f.b, .int .i64 f.r, .int .i64 f.d] (by rfl) (by rfl) (news_at (by simp)) (by simp [Value.oneCell']) (by omega) (by have := unhide HL1; unfold maxLen; omega) (by have := unhide HL1; omega) (by have := (unhide HT2).bel.size; simp; omega) (w5.heap.size + 1) (by simp) ?_)
                intro gg2 cap2 w6 hown6 hgrow6 hat6 hlt6
                have HT3 := hide (((unhide HT2).swap.below (bel_one _)).grown rfl hown6 hgrow6 (by simpa using hat6))
                clear hown6 hgrow6 hat6 hlt6 s0 s1 s2 s3 s4 s5 s6 HT2
                generalize hlen2 : l1.length + 1 = n2 at *
                clear hlen2
                have s0 := (unhide HT3).c0
                have s1 := (unhide HT3).c1
                have s2 := (unhide HT3).c2
                have s3 := (unhide HT3).c3
                have s4 := (unhide HT3).c4
                have s5 := (unhide HT3).lt
                go_wp2_with (at_builtin; refine wpList_append_lies _ (by rfl) _ _ 28 (by rfl) w4.heap.size 23 i0 _ 5 40 Tryd.underlying28 (unhide HI) (unhide HZ0) (unhide HZ1) (unhide HZ2) rfl (by omega) _ l2.length (fcells l2) (by rfl) ((unhide HT3).turn.below (bel_one _)).ox ⟨w6.heap.size, 0, none⟩ 1 1 [.int .i64 f.s, .int .i64 f.p, .int .i64 f.b, .int .i64 f.r, .int .i64 f.d] (by rfl) (by rfl) (news_at (by simp)) (by simp [Value.oneCell']) (by omega) (by have := unhide HL2; unfold maxLen; omega) (by have := unhide HL2; omega) (by have := (unhide HT3).bel.size; simp; omega) (w6.heap.size + 1) (by simp) ?_)
                intro gg3 cap3 w7 hown7 hgrow7 hat7 hlt7
                have HT4 := hide (((unhide HT3).turn.below (bel_one _)).grown rfl hown7 hgrow7 (by simpa using hat7))
                clear hown7 hgrow7 hat7 hlt7 s0 s1 s2 s3 s4 s5 HT3
                generalize hlen3 : l2.length + 1 = n3 at *
                clear hlen3
                go_wp2_with fail
                go_roundw
                case rel =>
                  refine ⟨j + 1, by omega, by go_num, ?_⟩
                  rw [unhide HLe, unhide HLa, unhide HTu, if_neg hjq, if_neg hjq, unhide HN, unhide HP, unhide HEj, unhide HEp]
                  exact (unhide HT4).swap.toT3
                case measure => simp [intOf]; omega
            · have hjk : j = k := by omega
              subst hjk
              have HT := hide hT
              clear hT
              have hkl := unhide HN
              have HM1 := hide (less_may q (unhide HM) j (by rw [hkl]; exact Nat.le_refl _))
              have HM2 := hide (later_may q mo m0 (by omega) (unhide HM) j (by rw [hkl]; exact Nat.le_refl _))
              have HM3 := hide (turn_may q (by rw [hkl]; exact hn0) (unhide HM) j)
              have hl1 := less_len l q j
              have hl2 := later_len l q mo j
              have hl3 := turn_len l q j
              have HV3 := hide (show viol (turnTo l q j) = V from by rw [← hkl, viol_turn q (by rw [hkl]; exact hqk)]; exact unhide HVl)
              have HV1 := hide (show V = 0 → viol (lessTo l q j) = 0 from fun h => by rw [← hkl]; exact viol_less q (unhide HM) (by rw [unhide HVl]; exact h))
              have HV2 := hide (show V = 0 → viol (laterTo l q mo j) = 0 from fun h => by rw [← hkl]; exact viol_later q mo m0 (unhide HM) (by rw [unhide HVl]; exact h))
              clear hkl
              have hk1 : (lessTo l q j).length ≤ 6 := by omega
              have hk2 : (laterTo l q mo j).length ≤ 6 := by omega
              have hk3 : (turnTo l q j).length ≤ 6 := by omega
              clear hl1 hl2 hl3
              generalize lessTo l q j = l1 at *
              generalize laterTo l q mo j = l2 at *
              generalize turnTo l q j = l3 at *
              have HGr := hide ((unhide HGw).below (unhide HT).bel)
              go_wp2_with fail
              refine (kfit_any _ l1 a0 a1 _ (unhide HGr) (unhide HT).ox.fls hk1 (unhide HM1)).mono ?_
              rintro e w5 ⟨rfl, hb⟩
              have HT5 := hide ((unhide HT).below hb)
              have HG5 := hide ((unhide HGr).below hb)
              clear hb HT HGr
              generalize hA : viol l1 = V1 at *
              clear hA
              go_wp2_with fail
              refine (kfit_any _ l2 a0 a1 _ (unhide HG5) (unhide HT5).oy.fls hk2 (unhide HM2)).mono ?_
              rintro e w6 ⟨rfl, hb⟩
              have HT6 := hide ((unhide HT5).below hb)
              have HG6 := hide ((unhide HG5).below hb)
              clear hb HT5 HG5
              generalize hA : viol l2 = V2 at *
              clear hA
              go_wp2_with fail
              refine (kfit_any _ l3 a0 a1 _ (unhide HG6) (unhide HT6).oz.fls hk3 (unhide HM3)).mono ?_
              rintro e w7 ⟨rfl, hb⟩
              have HB7 := hide (bel_then (unhide HBw) (bel_then (unhide HT6).bel hb))
              clear hb HT6 HG6
              rw [unhide HV3, unhide HFine]
              have hA1 : fine = true → decide (V1 = 0) = true := fun h => by
                rw [← unhide HFine] at h
                exact decide_eq_true (unhide HV1 (of_decide_eq_true h))
              have hA2 : fine = true → decide (V2 = 0) = true := fun h => by
                rw [← unhide HFine] at h
                exact decide_eq_true (unhide HV2 (of_decide_eq_true h))
              generalize decide (V1 = 0) = b1 at *
              generalize decide (V2 = 0) = b2 at *
              cases fine
              · clear hA1 hA2
                go_wp2_with fail
                go_ret
                exact ⟨rfl, unhide HB7⟩
              · have hA1' := hA1 rfl
                have hA2' := hA2 rfl
                subst hA1'
                subst hA2'
                clear hA1 hA2
                go_wp2_with fail
                go_ret
                exact ⟨rfl, unhide HB7⟩
end Go.Proofs.YtcnmajndackohaaDoor
