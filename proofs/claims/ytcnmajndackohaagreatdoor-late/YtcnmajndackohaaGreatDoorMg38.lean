import Derived.Test.YtcnmajndackohaaGreatDoorMg37
/-
  The walk of Late.
-/
namespace Go.Proofs.YtcnmajndackohaaGreatDoor
open Go.RowKit

theorem sml_lx1 (L : List Fl) : Sml (lx1 L) 2 := ⟨by show (1 : Int) ≤ 500 * ((2 : Nat) : Int); decide, by show 1 ≤ 2; decide, fun p hp => by rw [List.mem_singleton.1 (show p ∈ [p0] from hp)]; decide, by show 1 ≤ 500 * 2; decide⟩
theorem heldL {w W w1 : World} {g o : Nat} {v0 v1 v2 v3 v4 : Value} (hg : g < w.heap.size) (hb : Below W.heap.size W w1) (h : W.cell? ⟨g, o, none⟩ = some v0 ∧ W.cell? ⟨g, o + 1, none⟩ = some v1 ∧ W.cell? ⟨g, o + 2, none⟩ = some v2 ∧ W.cell? ⟨g, o + 3, none⟩ = some v3 ∧ W.cell? ⟨g, o + 4, none⟩ = some v4 ∧ Below w.heap.size w W) :
    w1.cell? ⟨g, o, none⟩ = some v0 ∧ w1.cell? ⟨g, o + 1, none⟩ = some v1 ∧ w1.cell? ⟨g, o + 2, none⟩ = some v2 ∧ w1.cell? ⟨g, o + 3, none⟩ = some v3 ∧ w1.cell? ⟨g, o + 4, none⟩ = some v4 ∧ Below w.heap.size w w1 := by
  obtain ⟨h0, h1, h2, h3, h4, h5⟩ := h
  have hl : g < W.heap.size := Nat.lt_of_lt_of_le hg h5.size
  have e := fun (p : Nat) => hb.cell (p := ⟨g, p, none⟩) hl
  exact ⟨(e _).trans h0, (e _).trans h1, (e _).trans h2, (e _).trans h3, (e _).trans h4, bel_then h5 hb⟩
theorem heldLb {w W : World} {c0 c1 c2 c3 c4 : Prop} (h : c0 ∧ c1 ∧ c2 ∧ c3 ∧ c4 ∧ Below w.heap.size w W) : Below w.heap.size w W := h.2.2.2.2.2
theorem e_nn {f : Fl} (h : f.may) (t : Int) : 0 ≤ f.e t := e_nonneg h t
/-- A line of the play's own: what a call of it leaves. -/
theorem PlayAt.send {W : World} {R : World → Nat → Ln → (Nat → Prop) → Prop} (K : LineJ W R) {w : World} {b : Nat} {s : Pst} (h : PlayAt W R w b s) {n : Nat} (hs : Sml s.x n) (hn : n ≤ 2000000) (k z : Int) (k0 : -9223372036854775808 ≤ k) (k1 : k ≤ 9223372036854775807) (z0 : -9223372036854775808 ≤ z) (z1 : z ≤ 9223372036854775807) :
    ∃ P, w.cell? ⟨b, 0, none⟩ = some (.pointer (some ⟨P, 0, none⟩)) ∧ Calls Tryz.prog 24 #[.pointer (some ⟨P, 0, none⟩), .int .i64 k, .int .i64 z] w fun e w' => e = .returned (.int .i64 (s.x.send k z).1) ∧ PlayAt W R w' b { s with x := (s.x.send k z).2 } := by
  obtain ⟨o, P, F, vf, vs, vo, vg, inn, hp⟩ := h
  refine ⟨P, hp.blk.cell (j := 0) rfl, (K.send w P s.x F n k z hp.bl hp.line hs hn k0 k1 z0 z1).mono ?_⟩
  rintro e w2 ⟨rfl, F2, hR2, ho2, hF2⟩
  obtain ⟨o2, hp2, _⟩ := hp.lined hR2 ho2 hF2 (fun i hi => (K.ge hR2 i hi).2)
  exact ⟨rfl, _, _, _, _, _, _, _, _, hp2⟩
theorem PlayAt.other {W : World} {R : World → Nat → Ln → (Nat → Prop) → Prop} (K : LineJ W R) {w : World} {b : Nat} {s : Pst} (h : PlayAt W R w b s) {n : Nat} (hs : Sml s.x n) (hn : n ≤ 2000000) (z : Int) (z0 : -9223372036854775808 ≤ z) (z1 : z ≤ 9223372036854775807) :
    ∃ P, w.cell? ⟨b, 0, none⟩ = some (.pointer (some ⟨P, 0, none⟩)) ∧ Calls Tryz.prog 21 #[.pointer (some ⟨P, 0, none⟩), .int .i64 z] w fun e w' => e = .returned (.int .i64 (s.x.other z).1) ∧ PlayAt W R w' b { s with x := (s.x.other z).2 } := by
  obtain ⟨o, P, F, vf, vs, vo, vg, inn, hp⟩ := h
  refine ⟨P, hp.blk.cell (j := 0) rfl, (K.other w P s.x F n z hp.bl hp.line hs hn z0 z1).mono ?_⟩
  rintro e w2 ⟨rfl, F2, hR2, ho2, hF2⟩
  obtain ⟨o2, hp2, _⟩ := hp.lined hR2 ho2 hF2 (fun i hi => (K.ge hR2 i hi).2)
  exact ⟨rfl, _, _, _, _, _, _, _, _, hp2⟩

set_option maxRecDepth 100000 in
set_option maxHeartbeats 2000000 in
theorem late_any (W : World) (KK : ∀ W', Below W.heap.size W W' → ∃ R, LineK W' R) (a0 a1 : Addr) (hg : Gl W a0 a1) (vr : Value) (lr : List Fl) (hr : Fls W vr lr) (hraw : ∀ f ∈ lr, Raw f) (hrl : lr.length ≤ maxLen) :
    Calls Tryz.prog 6 #[vr] W fun e w' => e = .returned (.bool true) ∧ Below W.heap.size W w' := by
  have HFl := hide (flows_F vr lr W hr hraw hrl)
  have HKK := hide KK
  have HG := hide hg
  have HM := hide (show ∀ f ∈ (lr.take 6).map mk, f.may from fun f hf => by
    obtain ⟨q, _, rfl⟩ := List.mem_map.1 hf
    exact mk_may q)
  have H6 := hide (show ((lr.take 6).map mk).length ≤ 6 by rw [List.length_map, List.length_take]; omega)
  generalize (lr.take 6).map mk = L at *
  clear KK hg hr hraw hrl
  go_enter Tryz.func6, Tryz.ntmps6
  go_wp2_with fail
  refine (unhide HFl).mono ?_
  rintro e w1 ⟨v, rfl, hown, hb1⟩
  obtain ⟨av, cv, rfl⟩ := row_lenF hown
  have HB1 := hide hb1
  have HO := hide hown
  have HFit := hide (kfit_any _ L a0 a1 w1 ((unhide HG).below hb1) hown.fls (unhide H6) (unhide HM))
  clear hb1 hown HFl
  go_wp2_with fail
  refine (unhide HFit).mono ?_
  rintro e w2 ⟨rfl, hb2⟩
  have HB2 := hide (bel_then (unhide HB1) hb2)
  have HO2 := hide ((unhide HO).below hb2)
  have HKn := hide (known_any w2 fun W' h => let ⟨R, k⟩ := unhide HKK W' (bel_then (unhide HB2) h); ⟨R, k.toLineJ⟩)
  clear hb2 HFit HO HB1
  have hvs := viol_spec L
  generalize hT : viol L = t at *
  have HVs := hide hvs
  clear hvs hT
  go_wp2_with fail
  refine (unhide HKn).mono ?_
  rintro e w3 ⟨rfl, hb3⟩
  have HB3 := hide (bel_then (unhide HB2) hb3)
  have HO3 := hide ((unhide HO2).below hb3)
  have HG3 := hide ((unhide HG).below (unhide HB3))
  clear hb3 HKn HO2 HB2
  by_cases ht0 : t = 0
  · subst ht0
    go_wp2_with fail
    go_ret
    exact ⟨rfl, unhide HB3⟩
  · have hdt : decide (t = 0) = false := by simpa using ht0
    obtain ⟨R, K⟩ := unhide HKK w3 (unhide HB3)
    have HK := hide K
    have HPl := hide (play_F w3 K.toLineJ _ L (unhide HO3).fls (unhide HM) (unhide H6))
    have hvv : 1 ≤ t ∧ t ≤ 1300 ∧ (0 < tot t L ∧ t < tot t L + 7) := by
      rcases unhide HVs with ⟨h, _⟩ | ⟨h1, h2, h3, _⟩
      · exact absurd h ht0
      · refine ⟨by omega, by omega, ?_⟩
        have h3' : ¬ vioB L t = false := by rw [h3]; decide
        rw [vio_iff] at h3'
        exact Classical.byContradiction h3'
    have HVv := hide hvv
    rw [hdt]
    have hL0 : 0 < L.length := by
      cases L with
      | nil => simp [tot] at hvv
      | cons f l => simp
    have htb : 1 ≤ t ∧ t ≤ 1300 := ⟨hvv.1, hvv.2.1⟩
    obtain ⟨gl, cl, hgv, hgc⟩ := row_cell (unhide HO3) hL0
    simp only [Value.slice.injEq] at hgv
    obtain ⟨rfl, _, rfl⟩ := hgv
    have HGc := hide hgc
    have hgl := (ownsRow_lt (unhide HO3) gl rfl).2
    clear K hdt hvv HVs hgc
    generalize hnL : L.length = nL at *
    have HNL := hide hnL
    have hnL6 : (nL : Int) ≤ 6 := by have := unhide H6; omega
    clear hnL
    go_wp2_with fail
    refine (unhide HPl).mono ?_
    rintro e w4 ⟨b, rfl, hp4⟩
    obtain ⟨P, hc0, hoth⟩ := hp4.other (unhide HK).toLineJ (sml_new L) (by decide) 8 (by decide) (by decide)
    have HOt := hide hoth
    rw [show ((pst L).x.other 8).1 = 0 from by show ((Ln.new L).other 8).1 = 0; rw [late_start]] at HOt
    clear hp4 hoth HPl
    go_wp2_with fail
    refine (unhide HOt).mono ?_
    rintro e w5 ⟨rfl, hp5⟩
    have HRn := hide (runs_any (unhide HK).toLineJ w5 b { pst L with x := ((Ln.new L).other 8).2 } 1 1 hp5 ((sml_new L).other 8) (by decide) (by show ([] : List Pk).length ≤ _; exact Nat.zero_le _) (by decide) (by decide))
    rw [lst_run, lst_one] at HRn
    clear hp5 hc0 HOt
    go_wp2_with fail
    refine (unhide HRn).mono ?_
    rintro e w6 ⟨rfl, hp6⟩
    have HP6 := hide hp6
    clear hp6 HRn
    go_wp2_with fail
    go_loopw [11] (fun i wr => ∃ (j : Nat) (x : Ln), i = .int .i64 j ∧ j ≤ nL ∧ PlayAt w3 R wr b (lst L x) ∧ Snd t L x j 0 ∧ Sml x (2 + 40 * j) ∧ ∀ f ∈ L.take j, f.e t ≤ 40) (fun i _ => nL - (intOf i).toNat)
    case atStart => exact ⟨0, lx1 L, rfl, Nat.zero_le _, unhide HP6, snd_start (unhide HM), sml_lx1 L, fun f hf => by cases hf⟩
    case round =>
      obtain ⟨j, x, rfl, hj, hp, hsnd, hsml, h40⟩ := hrel
      have HPj := hide hp
      have HSj := hide hsnd
      have HMj := hide hsml
      have H40 := hide h40
      clear hsnd hsml h40
      by_cases hjn : j < nL
      · have hjl : j < L.length := by rw [unhide HNL]; exact hjn
        have hji : (j : Int) < (nL : Int) := by omega
        have q := fcells_at L j hjl
        have hgr : gl < wr.heap.size := Nat.lt_of_lt_of_le hgl hp.bel.size
        have e0 := (hp.bel.cell (p := ⟨gl, j * 5, none⟩) hgl).trans (unhide HGc _ _ q.1)
        have e1 := (hp.bel.cell (p := ⟨gl, j * 5 + 1, none⟩) hgl).trans (unhide HGc _ _ q.2.1)
        have e2 := (hp.bel.cell (p := ⟨gl, j * 5 + 2, none⟩) hgl).trans (unhide HGc _ _ q.2.2.1)
        have e3 := (hp.bel.cell (p := ⟨gl, j * 5 + 3, none⟩) hgl).trans (unhide HGc _ _ q.2.2.2.1)
        have e4 := (hp.bel.cell (p := ⟨gl, j * 5 + 4, none⟩) hgl).trans (unhide HGc _ _ q.2.2.2.2)
        have hmay := unhide HM L[j] (List.getElem_mem hjl)
        have HBr := hide hp.bel
        have HMo := hide (fun (w' : World) (hb : Below w3.heap.size w3 w') => kmost_ok L[j].s L[j].p L[j].b L[j].r L[j].d (t - L[j].d) w' ((unhide HG3).below hb).st hmay (by have := hmay.d0; have := hmay.s0; omega))
        rw [show allow L[j].s L[j].p L[j].b L[j].r (t - L[j].d) = L[j].e t from rfl] at HMo
        have hd := hmay.d1
        have hd0 := hmay.d0
        have hs0 := hmay.s0
        have en := e_nn hmay t
        have HLj := hide (List.getElem?_eq_getElem hjl)
        have HTk := hide (show L.take (j + 1) = L.take j ++ [L[j]] from List.take_succ_eq_append_getElem hjl)
        generalize L[j] = f at *
        have ew : IntKind.i64.wrap (t - f.d) = t - f.d := by go_arith
        clear hp q hmay
        go_wp2_with fail
        go_region_held3 (fun w' => w'.cell? ⟨gl, j * 5, none⟩ = some (.int .i64 f.s) ∧ w'.cell? ⟨gl, j * 5 + 1, none⟩ = some (.int .i64 f.p) ∧ w'.cell? ⟨gl, j * 5 + 2, none⟩ = some (.int .i64 f.b) ∧ w'.cell? ⟨gl, j * 5 + 3, none⟩ = some (.int .i64 f.r) ∧ w'.cell? ⟨gl, j * 5 + 4, none⟩ = some (.int .i64 f.d) ∧ Below wr.heap.size wr w')
          (first | exact ⟨e0, e1, e2, e3, e4, (Below.refl _ _).drew⟩ | exact heldL hgr (by assumption) (by assumption) | assumption)
          (first | (go_at_call 23; refine (unhide HMo _ (bel_then (unhide HBr) (heldLb (by assumption)))).mono ?_; rintro e w' ⟨rfl, hb'⟩))
        rename_i hH
        have HP7 := hide ((unhide HPj).only (unhide HK).toLineJ (heldLb hH))
        clear hH hb' e0 e1 e2 e3 e4 HMo HBr ew
        obtain ⟨N, hN⟩ : ∃ N : Nat, f.e t = (N : Int) := ⟨(f.e t).toNat, by omega⟩
        have HNe := hide hN
        rw [hN]
        clear hN en
        by_cases h41 : 40 < N
        · have h41' : (40 : Int) < (N : Int) := by omega
          go_wp2_with fail
          go_ret
          exact ⟨rfl, bel_then (unhide HB3) (unhide HP7).bel⟩
        · have h41' : (N : Int) ≤ 40 := by omega
          go_wp2_with fail
          go_loopw [13] (fun i wr2 => ∃ (k : Nat) (x2 : Ln), i = .int .i64 k ∧ k ≤ N ∧ PlayAt w3 R wr2 b (lst L x2) ∧ Snd t L x2 j k ∧ Sml x2 (2 + 40 * j + k)) (fun i _ => N - (intOf i).toNat)
          case atStart => exact ⟨0, x, rfl, Nat.zero_le _, unhide HP7, unhide HSj, unhide HMj⟩
          case round =>
            obtain ⟨k, x2, rfl, hkN, hp2, hsnd2, hsml2⟩ := hrel
            have HP2 := hide hp2
            have HS2 := hide hsnd2
            have HM2 := hide hsml2
            by_cases hk : k < N
            · obtain ⟨x3, hx3, hsnd3⟩ := snd_send hsnd2 (unhide HLj) (by have := unhide HNe; omega) (by omega)
              obtain ⟨P2, c0, hsd⟩ := hp2.send (unhide HK).toLineJ (s := lst L x2) hsml2 (by omega) j 1 (by omega) (by omega) (by decide) (by decide)
              have HSd := hide hsd
              rw [show (lst L x2).x.send j 1 = (0, x3) from hx3] at HSd
              have HS3 := hide hsnd3
              have HM3 := hide (show Sml x3 (2 + 40 * j + (k + 1)) by
                have := hsml2.send j 1
                rw [hx3] at this
                exact this)
              have hki : (k : Int) < (N : Int) := by omega
              clear hsd hp2 hsnd2 hsml2 hsnd3
              go_wp2_with fail
              refine (unhide HSd).mono ?_
              rintro e w8 ⟨rfl, hp8⟩
              have HP8 := hide (show PlayAt w3 R w8 b (lst L x3) from hp8)
              clear hp8 HSd c0
              go_wp2_with fail
              go_roundw
              case rel => exact ⟨k + 1, x3, by go_num, by omega, unhide HP8, unhide HS3, unhide HM3⟩
              case measure => simp [intOf]; omega
            · have hkN2 : k = N := by omega
              subst hkN2
              have HS3 := hide (snd_next hsnd2 (unhide HLj) (unhide HNe).symm)
              have HM3 := hide (hsml2.mono (show 2 + 40 * j + k ≤ 2 + 40 * (j + 1) by omega))
              clear hp2 hsnd2 hsml2
              go_wp2_with fail
              go_roundw
              case rel => exact ⟨j + 1, x2, by go_num, by omega, unhide HP2, unhide HS3, unhide HM3, fun g hg => by
                rw [unhide HTk] at hg
                rcases List.mem_append.1 hg with q | q
                · exact unhide H40 g q
                · rw [List.mem_singleton.1 q, unhide HNe]; omega⟩
              case measure => simp [intOf]; omega
      · have hj2 : j = nL := by omega
        subst hj2
        have HS9 := hide (show Snd t L x L.length 0 by rw [unhide HNL]; exact unhide HSj)
        have H40L := hide (show ∀ f ∈ L, f.e t ≤ 40 from fun f hf => unhide H40 f (by rw [← unhide HNL, List.take_length]; exact hf))
        have HEnd := hide (late_all (unhide HM) (by rw [unhide HNL]; exact unhide H6) (unhide HS9) (unhide HVv).1 (unhide HVv).2.1 (unhide H40L) (unhide HVv).2.2 (unhide HMj) (by omega))
        have HAll := hide (all_nil (unhide HK) wr b (lst L x) (2 + 40 * j) none 0 hp (lst_bnd (unhide HMj)) (by omega))
        clear hp
        generalize (lst L x).drain 100 = sE at *
        go_wp2_with fail
        refine (unhide HAll).mono ?_
        rintro e w9 ⟨rfl, hp9⟩
        have HB9 := hide (bel_then (unhide HB3) hp9.bel)
        have HDu := hide (due_any w9 b sE hp9 (unhide HEnd).2.2.1 (unhide HEnd).2.1 (unhide HEnd).2.2.2)
        rw [(unhide HEnd).1] at HDu
        clear hp9 HAll
        go_wp2_with fail
        refine (unhide HDu).mono ?_
        rintro e w10 ⟨rfl, hb10⟩
        have HB10 := hide (bel_then (unhide HB9) hb10)
        clear hb10
        go_wp2_with fail
        go_ret
        exact ⟨rfl, unhide HB10⟩
end Go.Proofs.YtcnmajndackohaaGreatDoor
