import Derived.Test.YtcnmajndackohaaGreatDoorLateMg17
import Derived.Maps.OwnSet
import Derived.Maps.RangeWalk
/-
  The walk of Late.
-/
namespace Go.Proofs.YtcnmajndackohaaGreatDoor
open Go.RowKit

theorem sml_lx1 (L : List Fl) : Sml (lx1 L) 2 := ⟨by show (1 : Int) ≤ 500 * ((2 : Nat) : Int); decide, by show 1 ≤ 2; decide, fun p hp => by rw [List.mem_singleton.1 (show p ∈ [p0] from hp)]; decide, by show 1 ≤ 500 * 2; decide⟩
theorem heldL {w W w1 : World} {g o : Nat} {v0 v1 v2 v3 v4 : Value} (hg : g < w.heap.size) (hb : Below W.heap.size W w1) (h : W.cell? ⟨g, o, none⟩ = some v0 ∧ W.cell? ⟨g, o + 1, none⟩ = some v1 ∧ W.cell? ⟨g, o + 2, none⟩ = some v2 ∧ W.cell? ⟨g, o + 3, none⟩ = some v3 ∧ W.cell? ⟨g, o + 4, none⟩ = some v4 ∧ Below w.heap.size w W) :
    w1.cell? ⟨g, o, none⟩ = some v0 ∧ w1.cell? ⟨g, o + 1, none⟩ = some v1 ∧ w1.cell? ⟨g, o + 2, none⟩ = some v2 ∧ w1.cell? ⟨g, o + 3, none⟩ = some v3 ∧ w1.cell? ⟨g, o + 4, none⟩ = some v4 ∧ Below w.heap.size w w1 := by
  obtain ⟨h0, h1, h2, h3, h4, h5⟩ := h
  have hl : g < W.heap.size := Nat.lt_of_lt_of_le hg h5.size
  have e := fun (p : Nat) => hb.cell (p := ⟨g, p, none⟩) hl
  exact ⟨(e _).trans h0, (e _).trans h1, (e _).trans h2, (e _).trans h3, (e _).trans h4, bel_then h5 hb⟩
theorem heldLb {w W : World} {c0 c1 c2 c3 c4 : Prop} (h : c0 ∧ c1 ∧ c2 ∧ c3 ∧ c4 ∧ Below w.heap.size w W) : Below w.heap.size w W := h.2.2.2.2.2
theorem e_nn {f : Fl} (h : f.may) (t : Int) : 0 ≤ f.e t := e_nonneg h t
/-- A line of the play's own: what a call of it leaves. -/
theorem PlayAt.send {W : World} {R : World → Nat → Ln → (Nat → Prop) → Prop} (K : LineJ W R) {w : World} {b : Nat} {s : Pst} (h : PlayAt W R w b s) {n : Nat} (hs : Sml s.x n) (hn : n ≤ 2000000) (k z : Int) (k0 : -9223372036854775808 ≤ k) (k1 : k ≤ 9223372036854775807) (z0 : -9223372036854775808 ≤ z) (z1 : z ≤ 9223372036854775807) :
    ∃ P, w.cell? ⟨b, 0, none⟩ = some (.pointer (some ⟨P, 0, none⟩)) ∧ Calls Tryz.prog 24 #[.pointer (some ⟨P, 0, none⟩), .int .i64 k, .int .i64 z] w fun e w' => e = .returned (.int .i64 (s.x.send k z).1) ∧ PlayAt W R w' b { s with x := (s.x.send k z).2 } := by
  obtain ⟨o, P, F, vf, vs, vo, vg, inn, hp⟩ := h
  refine ⟨P, hp.blk.cell (j := 0) rfl, (K.send w P s.x F n k z hp.bl hp.line hs hn k0 k1 z0 z1).mono ?_⟩
  rintro e w2 ⟨rfl, F2, hR2, ho2, hF2⟩
  obtain ⟨o2, hp2, _⟩ := hp.lined hR2 ho2 hF2 (fun i hi => (K.ge hR2 i hi).2)
  exact ⟨rfl, _, _, _, _, _, _, _, _, hp2⟩
theorem PlayAt.other {W : World} {R : World → Nat → Ln → (Nat → Prop) → Prop} (K : LineJ W R) {w : World} {b : Nat} {s : Pst} (h : PlayAt W R w b s) {n : Nat} (hs : Sml s.x n) (hn : n ≤ 2000000) (z : Int) (z0 : -9223372036854775808 ≤ z) (z1 : z ≤ 9223372036854775807) :
    ∃ P, w.cell? ⟨b, 0, none⟩ = some (.pointer (some ⟨P, 0, none⟩)) ∧ Calls Tryz.prog 21 #[.pointer (some ⟨P, 0, none⟩), .int .i64 z] w fun e w' => e = .returned (.int .i64 (s.x.other z).1) ∧ PlayAt W R w' b { s with x := (s.x.other z).2 } := by
  obtain ⟨o, P, F, vf, vs, vo, vg, inn, hp⟩ := h
  refine ⟨P, hp.blk.cell (j := 0) rfl, (K.other w P s.x F n z hp.bl hp.line hs hn z0 z1).mono ?_⟩
  rintro e w2 ⟨rfl, F2, hR2, ho2, hF2⟩
  obtain ⟨o2, hp2, _⟩ := hp.lined hR2 ho2 hF2 (fun i hi => (K.ge hR2 i hi).2)
  exact ⟨rfl, _, _, _, _, _, _, _, _, hp2⟩

set_option maxRecDepth 100000 in
set_option maxHeartbeats 2000000 in
theorem late_any (W : World) (KK : ∀ W', Below W.heap.size W W' → ∃ R, LineK W' R) (a0 a1 : Addr) (hg : Gl W a0 a1) (vr : Value) (lr : List Fl) (hr : Fls W vr lr) (hraw : ∀ f ∈ lr, Raw f) (hrl : lr.length ≤ maxLen) :
    Calls Tryz.prog 6 #[vr] W fun e w' => e = .returned (.bool true) ∧ Below W.heap.size W w' := by
  have HFl := hide (flows_F vr lr W hr hraw hrl)
  have HKK := hide KK
  have HG := hide hg
  have HM := hide (show ∀ f ∈ (lr.take 6).map mk, f.may from fun f hf => by
    obtain ⟨q, _, rfl⟩ := List.mem_map.1 hf
    exact mk_may q)
  have H6 := hide (show ((lr.take 6).map mk).length ≤ 6 by rw [List.length_map, List.length_take]; omega)
  generalize (lr.take 6).map mk = L at *
  clear KK hg hr hraw hrl
  go_enter Tryz.func6, Tryz.ntmps6
  go_wp2_with fail
  refine (unhide HFl).mono ?_
  rintro e w1 ⟨v, rfl, hown, hb1⟩
  obtain ⟨av, cv, rfl⟩ := row_lenF hown
  have HB1 := hide hb1
  have HO := hide hown
  have HFit := hide (kfit_any _ L a0 a1 w1 ((unhide HG).below hb1) hown.fls (unhide H6) (unhide HM))
  clear hb1 hown HFl
  go_wp2_with fail
  refine (unhide HFit).mono ?_
  rintro e w2 ⟨rfl, hb2⟩
  have HB2 := hide (bel_then (unhide HB1) hb2)
  have HO2 := hide ((unhide HO).below hb2)
  have HKn := hide (known_any w2 fun W' h => let ⟨R, k⟩ := unhide HKK W' (bel_then (unhide HB2) h); ⟨R, k.toLineJ⟩)
  clear hb2 HFit HO HB1
  have hvs := viol_spec L
  generalize hT : viol L = t at *
  have HVs := hide hvs
  clear hvs hT
  go_wp2_with fail
  refine (unhide HKn).mono ?_
  rintro e w3 ⟨rfl, hb3⟩
  have HB3 := hide (bel_then (unhide HB2) hb3)
  have HO3 := hide ((unhide HO2).below hb3)
  have HG3 := hide ((unhide HG).below (unhide HB3))
  clear hb3 HKn HO2 HB2
  by_cases ht0 : t = 0
  · subst ht0
    go_wp2_with fail
    go_ret
    exact ⟨rfl, unhide HB3⟩
  · have hdt : decide (t = 0) = false := by simpa using ht0
    obtain ⟨R, K⟩ := unhide HKK w3 (unhide HB3)
    have HK := hide K
    have HPl := hide (play_F w3 K.toLineJ _ L (unhide HO3).fls (unhide HM) (unhide H6))
    have hvv : 1 ≤ t ∧ t ≤ 1300 ∧ (0 < tot t L ∧ t < tot t L + 7) := by
      rcases unhide HVs with ⟨h, _⟩ | ⟨h1, h2, h3, _⟩
      · exact absurd h ht0
      · refine ⟨by omega, by omega, ?_⟩
        have h3' : ¬ vioB L t = false := by rw [h3]; decide
        rw [vio_iff] at h3'
        exact Classical.byContradiction h3'
    have HVv := hide hvv
    rw [hdt]
    have hL0 : 0 < L.length := by
      cases L with
      | nil => simp [tot] at hvv
      | cons f l => simp
    have htb : 1 ≤ t ∧ t ≤ 1300 := ⟨hvv.1, hvv.2.1⟩
    obtain ⟨gl, cl, hgv, hgc⟩ := row_cell (unhide HO3) hL0
    simp only [Value.slice.injEq] at hgv
    obtain ⟨rfl, _, rfl⟩ := hgv
    have HGc := hide hgc
    have hgl := (ownsRow_lt (unhide HO3) gl rfl).2
    clear K hdt hvv HVs hgc
    generalize hnL : L.length = nL at *
    have HNL := hide hnL
    have hnL6 : (nL : Int) ≤ 6 := by have := unhide H6; omega
    clear hnL
    go_wp2_with fail
    refine (unhide HPl).mono ?_
    rintro e w4 ⟨b, rfl, hp4⟩
    obtain ⟨P, hc0, hoth⟩ := hp4.other (unhide HK).toLineJ (sml_new L) (by decide) 8 (by decide) (by decide)
    have HOt := hide hoth
    rw [show ((pst L).x.other 8).1 = 0 from by show ((Ln.new L).other 8).1 = 0; rw [late_start]] at HOt
    clear hp4 hoth HPl
    go_wp2_with fail
    refine (unhide HOt).mono ?_
    rintro e w5 ⟨rfl, hp5⟩
    have HRn := hide (runs_any (unhide HK).toLineJ w5 b { pst L with x := ((Ln.new L).other 8).2 } 1 1 hp5 ((sml_new L).other 8) (by decide) (by show ([] : List Pk).length ≤ _; exact Nat.zero_le _) (by decide) (by decide))
    rw [lst_run, lst_one] at HRn
    clear hp5 hc0 HOt
    go_wp2_with fail
    refine (unhide HRn).mono ?_
    rintro e w6 ⟨rfl, hp6⟩
    have HP6 := hide hp6
    clear hp6 HRn
    go_wp2_with fail
    go_loopw [11] (fun i wr => ∃ (j : Nat) (x : Ln), i = .int .i64 j ∧ j ≤ nL ∧ PlayAt w3 R wr b (lst L x) ∧ Snd t L x j 0 ∧ Sml x (2 + 40 * j) ∧ ∀ f ∈ L.take j, f.e t ≤ 40) (fun i _ => nL - (intOf i).toNat)
    case atStart => exact ⟨0, lx1 L, rfl, Nat.zero_le _, unhide HP6, snd_start (unhide HM), sml_lx1 L, fun f hf => by cases hf⟩
    case round =>
      obtain ⟨j, x, rfl, hj, hp, hsnd, hsml, h40⟩ := hrel
      have HPj := hide hp
      have HSj := hide hsnd
      have HMj := hide hsml
      have H40 := hide h40
      clear hsnd hsml h40
      by_cases hjn : j < nL
      · have hjl : j < L.length := by rw [unhide HNL]; exact hjn
        have hji : (j : Int) < (nL : Int) := by omega
        have q := fcells_at L j hjl
        have hgr : gl < wr.heap.size := Nat.lt_of_lt_of_le hgl hp.bel.size
        have e0 := (hp.bel.cell (p := ⟨gl, j * 5, none⟩) hgl).trans (unhide HGc _ _ q.1)
        have e1 := (hp.bel.cell (p := ⟨gl, j * 5 + 1, none⟩) hgl).trans (unhide HGc _ _ q.2.1)
        have e2 := (hp.bel.cell (p := ⟨gl, j * 5 + 2, none⟩) hgl).trans (unhide HGc _ _ q.2.2.1)
        have e3 := (hp.bel.cell (p := ⟨gl, j * 5 + 3, none⟩) hgl).trans (unhide HGc _ _ q.2.2.2.1)
        have e4 := (hp.bel.cell (p := ⟨gl, j * 5 + 4, none⟩) hgl).trans (unhide HGc _ _ q.2.2.2.2)
        have hmay := unhide HM L[j] (List.getElem_mem hjl)
        have HBr := hide hp.bel
        have HMo := hide (fun (w' : World) (hb : Below w3.heap.size w3 w') => kmost_ok L[j].s L[j].p L[j].b L[j].r L[j].d (t - L[j].d) w' ((unhide HG3).below hb).st hmay (by have := hmay.d0; have := hmay.s0; omega))
        rw [show allow L[j].s L[j].p L[j].b L[j].r (t - L[j].d) = L[j].e t from rfl] at HMo
        have hd := hmay.d1
        have hd0 := hmay.d0
        have hs0 := hmay.s0
        have en := e_nn hmay t
        have HLj := hide (List.getElem?_eq_getElem hjl)
        have HTk := hide (show L.take (j + 1) = L.take j ++ [L[j]] from List.take_succ_eq_append_getElem hjl)
        generalize L[j] = f at *
        have ew : IntKind.i64.wrap (t - f.d) = t - f.d := by go_arith
        clear hp q hmay
        go_wp2_with fail
        go_region_held3 (fun w' => w'.cell? ⟨gl, j * 5, none⟩ = some (.int .i64 f.s) ∧ w'.cell? ⟨gl, j * 5 + 1, none⟩ = some (.int .i64 f.p) ∧ w'.cell? ⟨gl, j * 5 + 2, none⟩ = some (.int .i64 f.b) ∧ w'.cell? ⟨gl, j * 5 + 3, none⟩ = some (.int .i64 f.r) ∧ w'.cell? ⟨gl, j * 5 + 4, none⟩ = some (.int .i64 f.d) ∧ Below wr.heap.size wr w')
          (first | exact ⟨e0, e1, e2, e3, e4, (Below.refl _ _).drew⟩ | exact heldL hgr (by assumption) (by assumption) | assumption)
          (first | (go_at_call 23; refine (unhide HMo _ (bel_then (unhide HBr) (heldLb (by assumption)))).mono ?_; rintro e w' ⟨rfl, hb'⟩))
        rename_i hH
        have HP7 := hide ((unhide HPj).only (unhide HK).toLineJ (heldLb hH))
        clear hH hb' e0 e1 e2 e3 e4 HMo HBr ew
        obtain ⟨N, hN⟩ : ∃ N : Nat, f.e t = (N : Int) := ⟨(f.e t).toNat, by omega⟩
        have HNe := hide hN
        rw [hN]
        clear hN en
        by_cases h41 : 40 < N
        · have h41' : (40 : Int) < (N : Int) := by omega
          go_wp2_with fail
          go_ret
          exact ⟨rfl, bel_then (unhide HB3) (unhide HP7).bel⟩
        · have h41' : (N : Int) ≤ 40 := by omega
          go_wp2_with fail
          go_loopw [13] (fun i wr2 => ∃ (k : Nat) (x2 : Ln), i = .int .i64 k ∧ k ≤ N ∧ PlayAt w3 R wr2 b (lst L x2) ∧ Snd t L x2 j k ∧ Sml x2 (2 + 40 * j + k)) (fun i _ => N - (intOf i).toNat)
          case atStart => exact ⟨0, x, rfl, Nat.zero_le _, unhide HP7, unhide HSj, unhide HMj⟩
          case round =>
            obtain ⟨k, x2, rfl, hkN, hp2, hsnd2, hsml2⟩ := hrel
            have HP2 := hide hp2
            have HS2 := hide hsnd2
            have HM2 := hide hsml2
            by_cases hk : k < N
            · obtain ⟨x3, hx3, hsnd3⟩ := snd_send hsnd2 (unhide HLj) (by have := unhide HNe; omega) (by omega)
              obtain ⟨P2, c0, hsd⟩ := hp2.send (unhide HK).toLineJ (s := lst L x2) hsml2 (by omega) j 1 (by omega) (by omega) (by decide) (by decide)
              have HSd := hide hsd
              rw [show (lst L x2).x.send j 1 = (0, x3) from hx3] at HSd
              have HS3 := hide hsnd3
              have HM3 := hide (show Sml x3 (2 + 40 * j + (k + 1)) by
                have := hsml2.send j 1
                rw [hx3] at this
                exact this)
              have hki : (k : Int) < (N : Int) := by omega
              clear hsd hp2 hsnd2 hsml2 hsnd3
              go_wp2_with fail
              refine (unhide HSd).mono ?_
              rintro e w8 ⟨rfl, hp8⟩
              have HP8 := hide (show PlayAt w3 R w8 b (lst L x3) from hp8)
              clear hp8 HSd c0
              go_wp2_with fail
              go_roundw
              case rel => exact ⟨k + 1, x3, by go_num, by omega, unhide HP8, unhide HS3, unhide HM3⟩
              case measure => simp [intOf]; omega
            · have hkN2 : k = N := by omega
              subst hkN2
              have HS3 := hide (snd_next hsnd2 (unhide HLj) (unhide HNe).symm)
              have HM3 := hide (hsml2.mono (show 2 + 40 * j + k ≤ 2 + 40 * (j + 1) by omega))
              clear hp2 hsnd2 hsml2
              go_wp2_with fail
              go_roundw
              case rel => exact ⟨j + 1, x2, by go_num, by omega, unhide HP2, unhide HS3, unhide HM3, fun g hg => by
                rw [unhide HTk] at hg
                rcases List.mem_append.1 hg with q | q
                · exact unhide H40 g q
                · rw [List.mem_singleton.1 q, unhide HNe]; omega⟩
              case measure => simp [intOf]; omega
      · have hj2 : j = nL := by omega
        subst hj2
        have HS9 := hide (show Snd t L x L.length 0 by rw [unhide HNL]; exact unhide HSj)
        have H40L := hide (show ∀ f ∈ L, f.e t ≤ 40 from fun f hf => unhide H40 f (by rw [← unhide HNL, List.take_length]; exact hf))
        have HEnd := hide (late_all (unhide HM) (by rw [unhide HNL]; exact unhide H6) (unhide HS9) (unhide HVv).1 (unhide HVv).2.1 (unhide H40L) (unhide HVv).2.2 (unhide HMj) (by omega))
        have HAll := hide (all_nil (unhide HK) wr b (lst L x) (2 + 40 * j) none 0 hp (lst_bnd (unhide HMj)) (by omega))
        clear hp
        generalize (lst L x).drain 100 = sE at *
        go_wp2_with fail
        refine (unhide HAll).mono ?_
        rintro e w9 ⟨rfl, hp9⟩
        have HB9 := hide (bel_then (unhide HB3) hp9.bel)
        have HDu := hide (due_any w9 b sE hp9 (unhide HEnd).2.2.1 (unhide HEnd).2.1 (unhide HEnd).2.2.2)
        rw [(unhide HEnd).1] at HDu
        clear hp9 HAll
        go_wp2_with fail
        refine (unhide HDu).mono ?_
        rintro e w10 ⟨rfl, hb10⟩
        have HB10 := hide (bel_then (unhide HB9) hb10)
        clear hb10
        go_wp2_with fail
        go_ret
        exact ⟨rfl, unhide HB10⟩
end Go.Proofs.YtcnmajndackohaaGreatDoor
/-
  A map of numbers to blocks: what it holds, looked up, stored into, gone through.
-/
namespace Go.Proofs.YtcnmajndackohaaGreatDoor
open Go.RowKit
open Go.Maps (Keyed)

/-- How an element reads: a pointer to the beginning of a block. -/
def ptrE : Value → Option (DataW Unit × List MemPlace)
  | .pointer (some ⟨b, 0, none⟩) => some (.lit (.int .i64 (b : Int)), [])
  | _ => none
theorem ptrE_mk (b : Nat) : ptrE (.pointer (some ⟨b, 0, none⟩)) = some (.lit (.int .i64 (b : Int)), []) := rfl
theorem ptrE_inv {v : Value} {y : DataW Unit × List MemPlace} (h : ptrE v = some y) : ∃ b : Nat, v = .pointer (some ⟨b, 0, none⟩) ∧ y = (.lit (.int .i64 (b : Int)), []) := by
  unfold ptrE at h
  split at h
  · rename_i b
    exact ⟨b, rfl, (Option.some.inj h).symm⟩
  · cases h
theorem keyI : Keyed Tryz.prog 3 := Maps.int_keyed Tryz.underlying3
theorem zeroP (w : World) : (zeroValue 121).run Tryz.prog w = .ok (.pointer none) w := by kernel_rfl
abbrev kI (k : Nat) : Lit := .int .i64 (k : Int)
theorem isKey (k : Nat) : WideAt.IsKeyLit (kI k) := trivial
/-- The datum D holds just what m tells. -/
structure Mp (D : DataW Unit) (m : Nat → Option Nat) : Prop where
  ks : ∀ kl, Maps.has D kl = true → ∃ k : Nat, kl = kI k
  has : ∀ k : Nat, Maps.has D (kI k) = (m k).isSome
  get : ∀ (k a : Nat), m k = some a → ∀ z, D.atKey (kI k) z = .lit (.int .i64 (a : Int))
/-- Block M is a map that holds just what m tells. -/
def MapF (w : World) (M : Nat) (m : Nat → Option Nat) : Prop := ∃ D, w.ownsMap Tryz.prog 3 ptrE M (Maps.size D) D ∧ Mp D m
theorem wf_of {k : Int} (h0 : -9223372036854775808 ≤ k) (h1 : k ≤ 9223372036854775807) : Lit.wf (.int .i64 k) = true := by
  simp [Lit.wf, IntKind.min, IntKind.max, IntKind.signed, IntKind.bits]
  omega
theorem key_of {k : Int} (h0 : -9223372036854775808 ≤ k) (h1 : k ≤ 9223372036854775807) : keyOf Tryz.prog 3 (.int .i64 k) = some (.int .i64 k) := Maps.keyOf_int_mk Tryz.underlying3 (wf_of h0 h1)
theorem owns_tight {w : World} {M n : Nat} {D : DataW Unit} (h : w.ownsMap Tryz.prog 3 ptrE M n D) : w.ownsMap Tryz.prog 3 ptrE M (Maps.size D) D := by
  obtain ⟨es, clock, hb, F, _, rfl⟩ := h
  refine ⟨es, clock, hb, F, ?_, rfl⟩
  rw [Maps.size_eq, length_read]
  exact Nat.le_refl _
def mAt (m : Nat → Option Nat) (k : Int) : Option Nat := if 0 ≤ k then m k.toNat else none
def ptrO : Option Nat → Value
  | none => .pointer none
  | some a => .pointer (some ⟨a, 0, none⟩)
section
variable {w w' : World} {M : Nat} {m : Nat → Option Nat}
theorem MapF.lt (h : MapF w M m) : M < w.heap.size := h.choose_spec.1.lt
theorem MapF.of_block (h : MapF w M m) (hb : w'.heap[M]? = w.heap[M]?) : MapF w' M m := by
  obtain ⟨D, ⟨es, clock, e, r⟩, hp⟩ := h
  exact ⟨D, ⟨es, clock, hb.trans e, r⟩, hp⟩
theorem MapF.only {S : Nat → Prop} (h : MapF w M m) (k : Only S w w') (hs : ¬ S M) : MapF w' M m := h.of_block (k.block M h.lt hs)
theorem MapF.below (h : MapF w M m) (k : Below w.heap.size w w') : MapF w' M m := h.of_block (k.block M h.lt)
/-- 'v, ok := m[k]' and 'm[k]'. -/
theorem MapF.look (h : MapF w M m) (c : Bool) {k : Int} (h0 : -9223372036854775808 ≤ k) (h1 : k ≤ 9223372036854775807) :
    (Instr.lookup 111 (.map (some M)) (.int .i64 k) c).run Tryz.prog w = .ok (if c then .tuple #[ptrO (mAt m k), .bool (mAt m k).isSome] else ptrO (mAt m k)) w := by
  obtain ⟨D, ⟨es, clock, hb, F, _, rfl⟩, hp⟩ := h
  have hhas := @Maps.has_true_of_atKey
  rcases Maps.fit_look c keyI Tryz.underlying111 (zeroP w) hb F (key_of h0 h1) with ⟨hr, _, hat⟩ | ⟨e0, y, _, _, hr, hR, hat, _⟩
  · have hn := Maps.has_false_of_atKey hat
    have : mAt m k = none := by
      unfold mAt
      split
      · rename_i g
        have hh := hp.has k.toNat
        rw [show kI k.toNat = .int .i64 k by unfold kI; rw [Int.toNat_of_nonneg g], hn] at hh
        exact Option.not_isSome_iff_eq_none.1 (by rw [← hh]; decide)
      · rfl
    rw [hr, this]; rfl
  · have hn := Maps.has_true_of_atKey hat
    obtain ⟨j, hj⟩ := hp.ks _ hn
    have hk : k = (j : Int) := by unfold kI at hj; injection hj
    subst hk
    have hh := hp.has j
    rw [show kI j = .int .i64 (j : Int) from rfl, hn] at hh
    obtain ⟨a, ha⟩ := Option.isSome_iff_exists.1 hh.symm
    obtain ⟨b, hv, hy⟩ := ptrE_inv hR
    have e1 := hp.get j a ha (.lit (.bool false))
    have e2 := hat (.lit (.bool false))
    rw [show kI j = .int .i64 (j : Int) from rfl] at e1
    rw [e1, hy] at e2
    have hab : a = b := by
      simp only [DataW.lit.injEq, Lit.int.injEq, true_and] at e2
      omega
    have hm : mAt m (j : Int) = some a := by unfold mAt; rw [if_pos (by omega), Int.toNat_natCast]; exact ha
    rw [hr, hm, hv, hab]; rfl
/-- 'make(map[int]*flow)'. -/
theorem mapF_made (w : World) : MapF (w.alloc (.map #[] 0)) w.heap.size fun _ => none :=
  ⟨.map [], World.ownsMap_made w _ _ _, ⟨fun kl h => by simp [Maps.has] at h, fun k => rfl, fun k a h => by cases h⟩⟩
theorem kI_ne {j k : Nat} (h : j ≠ k) : kI j ≠ kI k := fun e => h (by unfold kI at e; injection e with _ e; omega)
/-- How many there are. -/
theorem Mp.size {D : DataW Unit} (hp : Mp D m) {n : Nat} (ho : w.ownsMap Tryz.prog 3 ptrE M n D) {N : Nat} (hN : ∀ k, N ≤ k → m k = none) : Maps.size D = (List.range N).countP fun k => (m k).isSome := by
  obtain ⟨es, rfl, hpw, hkl⟩ := ho.entries keyI
  rw [Maps.size_eq, List.countP_eq_length_filter]
  have hkeys : (es.map Prod.fst).Perm (((List.range N).filter fun k => (m k).isSome).map kI) := by
    rw [List.perm_ext_iff_of_nodup]
    · intro kl
      rw [List.mem_map, List.mem_map]
      constructor
      · rintro ⟨p, hpm, rfl⟩
        have hh : Maps.has (.map es) p.1 = true := by
          rw [Maps.has_eq, List.any_eq_true]
          exact ⟨p, hpm, WideAt.sameKey_self (hkl p hpm)⟩
        obtain ⟨k, hk⟩ := hp.ks _ hh
        refine ⟨k, ?_, hk.symm⟩
        rw [hk, hp.has] at hh
        rw [List.mem_filter]
        refine ⟨?_, hh⟩
        rw [List.mem_range]
        rcases Nat.lt_or_ge k N with g | g
        · exact g
        · rw [hN k g] at hh; cases hh
      · rintro ⟨k, hk, rfl⟩
        rw [List.mem_filter] at hk
        have hh := hp.has k
        rw [hk.2, Maps.has_eq, List.any_eq_true] at hh
        obtain ⟨p, hpm, hpk⟩ := hh
        exact ⟨p, hpm, WideAt.sameKey_eq hpk⟩
    · rw [List.nodup_iff_pairwise_ne, List.pairwise_map]
      exact hpw
    · rw [List.nodup_iff_pairwise_ne, List.pairwise_map]
      refine (List.nodup_iff_pairwise_ne.1 (List.nodup_range.filter _)).imp fun {a b} hne => kI_ne hne
  have := hkeys.length_eq
  rw [List.length_map, List.length_map] at this
  exact this
/-- 'len(m)'. -/
theorem MapF.len (h : MapF w M m) {N : Nat} (hN : ∀ k, N ≤ k → m k = none) (ty : TypeId) :
    (Builtin.len_ #[111] ty #[.map (some M)]).run Tryz.prog w = .ok (.int .i64 (((List.range N).countP fun k => (m k).isSome : Nat) : Int)) w := by
  obtain ⟨D, ho, hp⟩ := h
  rw [← hp.size ho hN]
  exact ho.len Tryz.underlying111 ty
theorem Mp.put {D : DataW Unit} (hp : Mp D m) (hm : Maps.IsMap D) (k a : Nat) : Mp (D.put (kI k) (.lit (.int .i64 (a : Int)))) (fun j => if j = k then some a else m j) := by
  refine ⟨fun kl hk => ?_, fun j => ?_, fun j b hj z => ?_⟩
  · by_cases e : kl = kI k
    · exact ⟨k, e⟩
    · rw [Maps.has_put_other e] at hk; exact hp.ks kl hk
  · by_cases e : j = k
    · subst e; rw [if_pos rfl, Maps.has_put_same hm (isKey j)]; rfl
    · rw [if_neg e, Maps.has_put_other (kI_ne e)]; exact hp.has j
  · by_cases e : j = k
    · subst e; rw [if_pos rfl] at hj
      rw [Maps.atKey_put_same hm (isKey j), Option.some.inj hj]
    · rw [if_neg e] at hj; rw [Maps.atKey_put_other (kI_ne e)]; exact hp.get j b hj z
theorem Mp.del {D : DataW Unit} (hp : Mp D m) (k : Nat) : Mp (D.del (kI k)) (fun j => if j = k then none else m j) := by
  refine ⟨fun kl hk => ?_, fun j => ?_, fun j b hj z => ?_⟩
  · by_cases e : kl = kI k
    · exact ⟨k, e⟩
    · rw [Maps.has_del_other e] at hk; exact hp.ks kl hk
  · by_cases e : j = k
    · subst e; rw [if_pos rfl, Maps.has_del_same]; rfl
    · rw [if_neg e, Maps.has_del_other (kI_ne e)]; exact hp.has j
  · by_cases e : j = k
    · subst e; rw [if_pos rfl] at hj; cases hj
    · rw [if_neg e] at hj; rw [Maps.atKey_del_other (kI_ne e)]; exact hp.get j b hj z
theorem strike (j k : Nat) : (!(kI j).sameKey (kI k)) = !decide (j = k) := by
  by_cases e : j = k
  · subst e
    rw [WideAt.sameKey_self (isKey j)]; simp
  · rw [Maps.sameKey_ne (kI_ne e)]; simp [e]
theorem Only.of_grown {row : Nat} (h : w.grownBy w' (some row)) : Only (fun i => i = row) w w' := ⟨h.os, h.tape, h.output, h.size, fun k hk hn => h.block k hk fun e => hn (Option.some.inj e)⟩
/-- 'm[k] = &..'. -/
theorem MapF.store (h : MapF w M m) {N : Nat} (hN : ∀ k, N ≤ k → m k = none) (hl : N ≤ 1000000000000) (k a : Nat) (h1 : (k : Int) ≤ 9223372036854775807) :
    ∃ w', (Instr.mapUpdate 111 (.map (some M)) (.int .i64 (k : Int)) (.pointer (some ⟨a, 0, none⟩))).run Tryz.prog w = .ok () w' ∧ MapF w' M (fun j => if j = k then some a else m j) ∧ Only (fun i => i = M) w w' := by
  obtain ⟨D, ho, hp⟩ := h
  have hs := hp.size ho hN
  have hc : (List.range N).countP (fun k => (m k).isSome) ≤ N := by have := List.countP_le_length (p := fun k => (m k).isSome) (l := List.range N); rwa [List.length_range] at this
  obtain ⟨w', hr, ho', hg⟩ := ho.update keyI Tryz.underlying111 (by unfold maxLen; omega) (key_of (k := (k : Int)) (by omega) h1) (ptrE_mk a)
  exact ⟨w', hr, ⟨_, owns_tight ho', hp.put ho.isMap k a⟩, Only.of_grown hg⟩
end
/-- Block r goes through the map at M; still to come are those of left. -/
def RangeF (w : World) (M r : Nat) (m : Nat → Option Nat) (left : Nat → Bool) : Prop :=
  ∃ n D lf cnt, w.ranges Tryz.prog 3 ptrE M r n D lf cnt ∧ Mp D m ∧ ∀ k : Nat, lf (kI k) = left k
section
variable {w w' : World} {M r : Nat} {m : Nat → Option Nat} {left : Nat → Bool}
theorem RangeF.map (h : RangeF w M r m left) : MapF w M m := by
  obtain ⟨n, D, lf, cnt, hr, hp, _⟩ := h
  exact ⟨D, owns_tight hr.owns, hp⟩
theorem RangeF.lt (h : RangeF w M r m left) : r < w.heap.size := by
  obtain ⟨n, D, lf, cnt, hr, hp, _⟩ := h
  exact hr.lt
theorem RangeF.ne (h : RangeF w M r m left) : r ≠ M := by
  obtain ⟨n, D, lf, cnt, hr, hp, _⟩ := h
  exact hr.ne
theorem RangeF.of_blocks (h : RangeF w M r m left) (hM : w'.heap[M]? = w.heap[M]?) (hr' : w'.heap[r]? = w.heap[r]?) : RangeF w' M r m left ∧ w'.rangeLeft M r = w.rangeLeft M r := by
  obtain ⟨n, D, lf, cnt, ⟨es, clock, since, seen, c0, hb, F, hs, hD, hr, rest⟩, hp, hl⟩ := h
  refine ⟨⟨n, D, lf, cnt, ⟨es, clock, since, seen, c0, hM.trans hb, F, hs, hD, hr'.trans hr, rest⟩, hp, hl⟩, ?_⟩
  unfold World.rangeLeft
  rw [hM, hr']
theorem RangeF.only {S : Nat → Prop} (h : RangeF w M r m left) (k : Only S w w') (h1 : ¬ S M) (h2 : ¬ S r) : RangeF w' M r m left ∧ w'.rangeLeft M r = w.rangeLeft M r :=
  h.of_blocks (k.block M h.map.lt h1) (k.block r h.lt h2)
end
section
variable (w : World) {M r : Nat} {m : Nat → Option Nat} {left : Nat → Bool} {ops : Array Oper} {rest : List Oper} {o : Oper} {a : Act} {Q : Exit → Act → World → Prop}
/-- 'range m'. -/
theorem wpList_range_F (hg : o.guard = none) (mo : Operand) (hop : o.op = Op.range 111 mo) (hm : a.eval mo = .map (some M)) (h : MapF w M m)
    (hK : ∀ w', RangeF w' M w.heap.size m (fun k => (m k).isSome) → Below w.heap.size w w' → w'.heap.size = w.heap.size + 1 → wpList Tryz.prog ops Q rest (a.put o.dst (.pointer (some ⟨w.heap.size, 0, none⟩))) w') :
    wpList Tryz.prog ops Q (o :: rest) a w := by
  obtain ⟨D, ho, hp⟩ := h
  refine wpList_range_own w hg mo 111 hop 3 121 keyI Tryz.underlying111 ptrE M _ D hm ho fun w' hr hgw hsz => ?_
  exact hK w' ⟨_, D, _, _, hr, hp, hp.has⟩ ⟨hgw.os, hgw.tape, hgw.output, hgw.size, fun k hk => hgw.block k hk (by simp)⟩ hsz
/-- The step. -/
theorem wpList_next_F (hg : o.guard = none) (it : Operand) (hop : o.op = Op.next it false) (hit : a.eval it = .pointer (some ⟨r, 0, none⟩)) (h : RangeF w M r m left)
    (hDone : (∀ k, left k = false) → wpList Tryz.prog ops Q rest (a.put o.dst (.tuple #[.bool false])) w)
    (hMore : ∀ (k b : Nat) (w' : World), left k = true → m k = some b → RangeF w' M r m (fun j => left j && !decide (j = k)) → w'.rangeLeft M r < w.rangeLeft M r → Only (fun i => i = r) w w' → w'.heap.size = w.heap.size →
      (Instr.entry (.pointer (some ⟨r, 0, none⟩))).run Tryz.prog w' = .ok (.tuple #[.int .i64 (k : Int), .pointer (some ⟨b, 0, none⟩)]) w' → wpList Tryz.prog ops Q rest (a.put o.dst (.tuple #[.bool true, .int .i64 (k : Int), .pointer (some ⟨b, 0, none⟩)])) w') :
    wpList Tryz.prog ops Q (o :: rest) a w := by
  obtain ⟨n, D, lf, cnt, hr, hp, hl⟩ := h
  refine wpList_next_ranges w hg it hop 3 keyI ptrE (fun x : Int => Value.int .i64 x) (fun b : Nat => Value.pointer (some ⟨b, 0, none⟩)) (fun key kl hk => ?_) (fun v y hv => ?_) M r n D lf cnt hit hr (fun _ hn => hDone fun k => (hl k) ▸ hn _) ?_
  · obtain ⟨x, rfl, _⟩ := Maps.keyOf_int_inv Tryz.underlying3 hk; exact ⟨x, rfl⟩
  · obtain ⟨b, rfl, _⟩ := ptrE_inv hv; exact ⟨b, rfl⟩
  · intro x b kl y w' cnt' hk hlk hv hat hr' hlt hgr hsz hen
    obtain ⟨x', ex, rfl, _⟩ := Maps.keyOf_int_inv Tryz.underlying3 hk
    cases ex
    have hh := Maps.has_true_of_atKey hat
    obtain ⟨k, hk'⟩ := hp.ks _ hh
    have hx : x = (k : Int) := by unfold kI at hk'; injection hk'
    subst hx
    obtain ⟨b', hb', rfl⟩ := ptrE_inv hv
    have hbb : b = b' := by simpa using hb'
    subst hbb
    rw [show Lit.int .i64 (k : Int) = kI k from rfl, hp.has k] at hh
    obtain ⟨a', ha'⟩ := Option.isSome_iff_exists.1 hh
    have e1 := hp.get k a' ha' (.lit (.bool false))
    have e2 := hat (.lit (.bool false))
    rw [show kI k = .int .i64 (k : Int) from rfl] at e1
    rw [e1] at e2
    have hab : a' = b := by
      simp only [DataW.lit.injEq, Lit.int.injEq, true_and] at e2
      omega
    subst hab
    refine hMore k a' w' (by rw [← hl k]; exact hlk) ha' ⟨n, D, _, cnt', hr', hp, fun j => ?_⟩ (by rw [hr'.left_eq, hr.left_eq]; exact hlt) (Only.of_grown hgr) hsz hen
    show (lf (kI j) && !(kI j).sameKey (kI k)) = _
    rw [hl j, strike]
/-- 'delete(m, k)' in the round. -/
theorem wpList_delete_F (hg : o.guard = none) (mo x : Operand) (hop : o.op = Op.call { callee := Callee.builtin Builtin.delete, args := #[mo, x], argTypes := #[111, 3] }) (hm : a.eval mo = .map (some M)) (h : RangeF w M r m left)
    (k : Nat) (hk1 : (k : Int) ≤ 9223372036854775807) (hx : a.eval x = .int .i64 (k : Int))
    (hK : ∀ w', RangeF w' M r (fun j => if j = k then none else m j) (fun j => left j && !decide (j = k)) → w'.rangeLeft M r ≤ w.rangeLeft M r → Only (fun i => i = M) w w' → w'.heap.size = w.heap.size → wpList Tryz.prog ops Q rest (a.put o.dst (.tuple #[])) w') :
    wpList Tryz.prog ops Q (o :: rest) a w := by
  obtain ⟨n, D, lf, cnt, hr, hp, hl⟩ := h
  refine wpList_delete_ranges w hg mo x 111 3 hop 121 keyI Tryz.underlying111 ptrE M r n D lf cnt hm hr (.int .i64 (k : Int)) (kI k) hx (key_of (by omega) hk1) fun w' cnt' hr' hle ht => ?_
  refine hK w' ⟨n, _, _, cnt', hr', hp.del k, fun j => ?_⟩ (by rw [hr'.left_eq, hr.left_eq]; exact hle) (Only.of_grown ht.grown) ?_
  · show (lf (kI j) && !(kI j).sameKey (kI k)) = _
    rw [hl j, strike]
  · obtain ⟨es, clock, es', clock', _, rfl⟩ := ht
    simp [ChangeMaps.setBlock]
end
end Go.Proofs.YtcnmajndackohaaGreatDoor
/-
  Rows that begin within a block: what a queue is whose head has gone.
-/
namespace Go.Proofs.YtcnmajndackohaaGreatDoor
open Go.RowKit

/-- A row of elements of so many cells, from anywhere in its block on. -/
def World.offRow (w : World) (e : TypeId) (size : Nat) (v : Value) (n : Nat) (xs : List Value) : Prop :=
  xs.length = n * size ∧
  ((v = .slice none 0 0 ∧ n = 0) ∨
   ∃ g off cap cur, v = .slice (some ⟨g, off, none⟩) n cap ∧ w.heap[g]? = some (.cells cur e (0, 0)) ∧ n ≤ cap ∧ cap ≤ maxLen ∧ off + cap * size ≤ cur.size ∧ (cur.toList.drop off).take (n * size) = xs)
section
variable {w w' : World} {e : TypeId} {size : Nat} {v : Value} {n : Nat} {xs : List Value}
theorem offRow_only {S : Nat → Prop} (h : World.offRow w e size v n xs) (ho : Only S w w') (hs : ∀ g, v.ownBlock = some g → ¬ S g) : World.offRow w' e size v n xs := by
  refine ⟨h.1, ?_⟩
  rcases h.2 with k | ⟨g, off, cap, cur, e1, e2, r⟩
  · exact .inl k
  · exact .inr ⟨g, off, cap, cur, e1, (ho.block g (lt_of_heap e2) (hs g (by rw [e1]; rfl))).trans e2, r⟩
theorem offRow_lt (h : World.offRow w e size v n xs) : ∀ g, v.ownBlock = some g → g < w.heap.size := by
  intro g hg
  rcases h.2 with ⟨e1, _⟩ | ⟨g', off, cap, cur, e1, e2, _⟩
  · rw [e1] at hg; cases hg
  · rw [e1] at hg
    have : g' = g := Option.some.inj hg
    subst this
    exact lt_of_heap e2
theorem offRow_of_owns {b : Nat} (h : w.ownsRow b e size v n xs) : World.offRow w e size v n xs := by
  refine ⟨h.1, ?_⟩
  rcases h.2 with k | ⟨g, cap, cur, e1, _, e2, h1, h2, h3, h4⟩
  · exact .inl k
  · exact .inr ⟨g, 0, cap, cur, e1, e2, h1, h2, by omega, by rw [List.drop_zero]; exact h4⟩
/-- What lies there. -/
theorem offRow_cell {g off cap : Nat} (h : World.offRow w e size (.slice (some ⟨g, off, none⟩) n cap) n xs) {j : Nat} {u : Value} (hj : xs[j]? = some u) : w.cell? ⟨g, off + j, none⟩ = some u := by
  rcases h.2 with ⟨e1, _⟩ | ⟨g', off', cap', cur, e1, e2, _, _, _, ht⟩
  · cases e1
  · simp only [Value.slice.injEq, Option.some.injEq, Addr.mk.injEq, and_true] at e1
    obtain ⟨⟨rfl, rfl⟩, _, rfl⟩ := e1
    rw [cell_of_row w g (off + j) cur e (0, 0) e2]
    rw [← ht, List.getElem?_take] at hj
    split at hj
    · rw [List.getElem?_drop] at hj
      simpa using hj
    · cases hj
/-- Without its head. -/
theorem offRow_tail {g off cap : Nat} {hd tl : List Value} (h : World.offRow w e size (.slice (some ⟨g, off, none⟩) (n + 1) cap) (n + 1) (hd ++ tl)) (hl : hd.length = size) : World.offRow w e size (.slice (some ⟨g, off + size, none⟩) n (cap - 1)) n tl ∧ 1 ≤ cap := by
  have h1 := h.1
  rw [List.length_append, hl, Nat.add_mul, Nat.one_mul] at h1
  rcases h.2 with ⟨e1, _⟩ | ⟨g', off', cap', cur, e1, e2, h2, h3, h4, ht⟩
  · cases e1
  · simp only [Value.slice.injEq, Option.some.injEq, Addr.mk.injEq, and_true] at e1
    obtain ⟨⟨rfl, rfl⟩, _, rfl⟩ := e1
    refine ⟨⟨by omega, .inr ⟨g, off + size, cap - 1, cur, rfl, e2, by omega, by omega, ?_, ?_⟩⟩, by omega⟩
    · rw [Nat.sub_mul, Nat.one_mul]
      have : size ≤ cap * size := Nat.le_mul_of_pos_left _ (by omega)
      omega
    · have e3 : (cur.toList.drop off).take ((n + 1) * size) = hd ++ tl := ht
      have e4 : (cur.toList.drop (off + size)).take (n * size) = (((cur.toList.drop off).take ((n + 1) * size))).drop size := by
        rw [List.drop_take, List.drop_drop, Nat.add_mul, Nat.one_mul, Nat.add_sub_cancel]
      rw [e4, e3, List.drop_left' hl]
/-- .. where there is room for no more: its address stays. -/
theorem offRow_last {g off : Nat} {hd : List Value} (h : World.offRow w e size (.slice (some ⟨g, off, none⟩) 1 1) 1 hd) : World.offRow w e size (.slice (some ⟨g, off, none⟩) 0 0) 0 [] := by
  rcases h.2 with ⟨e1, _⟩ | ⟨g', off', cap', cur, e1, e2, h2, h3, h4, ht⟩
  · cases e1
  · simp only [Value.slice.injEq, Option.some.injEq, Addr.mk.injEq, and_true] at e1
    obtain ⟨⟨rfl, rfl⟩, _, rfl⟩ := e1
    exact ⟨by simp, .inr ⟨g, off, 0, cur, rfl, e2, Nat.le_refl _, by omega, by omega, by simp⟩⟩
end
section
variable {P : Program} (w : World)
theorem run_append_roomO (t ty e : TypeId) (i : TypeInfo) (ht : P.underlying t = some (.slice e)) (hi : P.info? e = some i)
    (g off sLen sCap : Nat) (cur : Array Value) (hg : w.heap[g]? = some (.cells cur e (0, 0)))
    (a : Addr) (m c : Nat) (news : List Value) (hl : news.length = m * i.size) (hnews : ∀ j u, news[j]? = some u → w.cell? (a.add j) = some u) (h1 : ∀ u ∈ news, u.oneCell' = true)
    (hroom : sLen + m ≤ sCap) (hfit : off + sLen * i.size + news.length ≤ cur.size) :
    (Builtin.append_ #[t, t] ty #[.slice (some ⟨g, off, none⟩) sLen sCap, .slice (some a) m c]).run P w =
      .ok (.slice (some ⟨g, off, none⟩) (sLen + m) sCap) (w.setRow g (cur.toList.take (off + sLen * i.size) ++ news ++ cur.toList.drop (off + sLen * i.size + news.length)).toArray) := by
  have hf := run_firstCells_some (P := P) w i.size m a m c news hl hnews
  have hst := run_storeCells_at P g (off + sLen * i.size) e news 0 cur w hg (by simpa using hfit) h1
  simp only [Nat.add_zero] at hst
  simp [Builtin.append_, run_underlying ht, sizeOf, typeInfo, hi, Builtin.lenOf, hroom, hf, Addr.add_lit, hst]
theorem run_append_off (t ty e : TypeId) (i : TypeInfo) (z : Value) (size bytes : Nat) (ht : P.underlying t = some (.slice e)) (hi : P.info? e = some i) (hz : i.zero = some z)
    (hsize : i.size = size) (hby : i.bytes = bytes) (hzs : z.cells.size = size) (hsz : 0 < size)
    (v : Value) (n : Nat) (xs : List Value) (hown : World.offRow w e size v n xs)
    (a : Addr) (m c : Nat) (news : List Value) (hl : news.length = m * size) (hnews : ∀ j u, news[j]? = some u → w.cell? (a.add j) = some u) (h1 : ∀ u ∈ news, u.oneCell' = true)
    (h63 : n + m ≤ maxLen) (hbytes : (n + m) * bytes ≤ 140737488355328) :
    ∃ v' w', (Builtin.append_ #[t, t] ty #[v, .slice (some a) m c]).run P w = .ok v' w' ∧ World.offRow w' e size v' (n + m) (xs ++ news) ∧ w.grownBy w' v.ownBlock ∧ ∀ g, v'.ownBlock = some g → v.ownBlock = some g ∨ w.heap.size ≤ g := by
  rcases hown.2 with ⟨rfl, rfl⟩ | ⟨g, off, cap, cur, rfl, hg, hnc, hcm, hcs, htake⟩
  · have hx : xs = [] := List.eq_nil_of_length_eq_zero (by simpa using hown.1)
    subst hx
    obtain ⟨v', w', hr, h2, h3, _, h5⟩ := run_append_own_at (P := P) w 0 t ty e i z size bytes ht hi hz hsize hby hzs hsz (.slice none 0 0) 0 [] (World.ownsRow_nil w 0 e size) a m c news hl hnews h1 h63 hbytes (Nat.zero_le _)
    refine ⟨v', w', hr, offRow_of_owns h2, h3, fun g' hg' => ?_⟩
    rcases h5 with h5 | h5
    · exact .inl (by rw [← h5]; exact hg')
    · right
      rw [h5] at hg'
      have : w.heap.size = g' := Option.some.inj hg'
      omega
  · subst hsize
    subst hby
    have hlen : (xs ++ news).length = (n + m) * i.size := by rw [List.length_append, hown.1, hl, Nat.add_mul]
    have hsmall : n + m ≤ 9223372036854775807 := by simp only [maxLen] at h63; omega
    by_cases hroom : n + m ≤ cap
    · have hfit : off + n * i.size + news.length ≤ cur.size := by
        rw [hl]
        have := Nat.mul_le_mul_right i.size hroom
        rw [Nat.add_mul] at this
        omega
      have hr := run_append_roomO (P := P) w t ty e i ht hi g off n cap cur hg a m c news hl hnews h1 hroom hfit
      refine ⟨_, _, hr, ⟨hlen, .inr ⟨g, off, cap, _, rfl, setRow_heap w g cur _ e _ hg, hroom, hcm, ?_, ?_⟩⟩, ⟨rfl, rfl, rfl, by simp, fun k _ hk => setRow_other w g k _ (fun e => hk (by simp [Value.ownBlock, e]))⟩, fun g' hg' => .inl hg'⟩
      · simp only [List.size_toArray, List.length_append, List.length_take, List.length_drop, Array.length_toList]
        omega
      · have e1 : cur.toList.take (off + n * i.size) = cur.toList.take off ++ xs := by
          rw [List.take_add, htake]
        rw [e1]
        simp only [List.append_assoc]
        rw [List.drop_left' (by rw [List.length_take, Array.length_toList]; omega), ← List.append_assoc, ← hlen]
        exact List.take_left
    · have holds : ∀ j u, xs[j]? = some u → w.cell? ((⟨g, off, none⟩ : Addr).add j) = some u := fun j u hj => by
        rw [Addr.add_lit]
        exact offRow_cell hown hj
      have hr := run_append_grow (P := P) w t ty e i z ht hi hz ⟨g, off, none⟩ n cap xs hown.1 holds a m c news hl hnews (by omega) (by omega) (growslice_fits (by omega) hbytes)
      have hge := grownCap_ge w (n + m) cap e
      have hcm' : grownCap w (n + m) cap e ≤ maxLen := grownCap_le_maxLen w (n + m) cap e h63
      refine ⟨_, _, hr, ⟨hlen, .inr ⟨w.heap.size, 0, _, _, rfl, heap_alloc_new w.drew _, hge, hcm', ?_, ?_⟩⟩, ⟨rfl, rfl, rfl, by simp, fun k hk _ => Below.heap_alloc w.drew _ k hk⟩, fun g' hg' => .inr (by
        have : w.heap.size = g' := Option.some.inj hg'
        omega)⟩
      · simp only [Array.size_append, List.size_toArray, size_zeroCells, hzs, hown.1, hl]
        rw [Nat.zero_add, ← Nat.add_mul, ← Nat.add_mul]
        exact Nat.mul_le_mul_right _ (by omega)
      · rw [List.drop_zero]
        simp only [Array.toList_append, List.append_assoc]
        rw [← List.append_assoc, ← hlen]
        exact List.take_left
/-- At the operation. -/
theorem wp_append_off {o : Oper} {a : Act} {K : Act → World → Prop} {Q : Exit → Act → World → Prop} (s x : Operand) (t : TypeId)
    (ho : o.op = .call { callee := .builtin .append, args := #[s, x], argTypes := #[t, t] })
    (e : TypeId) (i : TypeInfo) (z : Value) (size bytes : Nat) (ht : P.underlying t = some (.slice e)) (hi : P.info? e = some i) (hz : i.zero = some z)
    (hsize : i.size = size) (hby : i.bytes = bytes) (hzs : z.cells.size = size) (hsz : 0 < size)
    (v : Value) (n : Nat) (xs : List Value) (hs : a.eval s = v) (hown : World.offRow w e size v n xs) (ad : Addr) (m c : Nat) (news : List Value) (hx : a.eval x = .slice (some ad) m c) (hl : news.length = m * size) (hnews : ∀ j u, news[j]? = some u → w.cell? (ad.add j) = some u) (h1 : ∀ u ∈ news, u.oneCell' = true)
    (h63 : n + m ≤ maxLen) (hbytes : (n + m) * bytes ≤ 140737488355328)
    (h : ∀ a' c' w', World.offRow w' e size (.slice a' (n + m) c') (n + m) (xs ++ news) → w.grownBy w' v.ownBlock → (∀ g, (Value.slice a' (n + m) c').ownBlock = some g → v.ownBlock = some g ∨ w.heap.size ≤ g) → K (a.put o.dst (.slice a' (n + m) c')) w') : o.wp P a w K Q := by
  obtain ⟨v', w', hr, h2, h3, h4⟩ := run_append_off (P := P) w t o.type e i z size bytes ht hi hz hsize hby hzs hsz v n xs hown ad m c news hl hnews h1 h63 hbytes
  have hf : ∃ a' c', v' = .slice a' (n + m) c' := by
    rcases h2.2 with ⟨e1, e2⟩ | ⟨g, off, cap, cur, e1, _⟩
    · exact ⟨none, 0, by rw [e1, e2]⟩
    · exact ⟨_, _, e1⟩
  obtain ⟨a', c', rfl⟩ := hf
  unfold Oper.wp execOp
  simp only [ho, resolve, invoke, builtin, Sem.run_bind, Sem.run_pure, Result.andThen_ok, List.map_toArray, List.map_cons, List.map_nil, hs, hx, hr]
  exact h a' c' w' h2 h3 h4
/-- In a plain region. -/
theorem wpList_append_off {ops : Array Oper} {rest : List Oper} {o : Oper} {a : Act} {Q : Exit → Act → World → Prop} (hgd : o.guard = none) (s x : Operand) (t : TypeId)
    (ho : o.op = .call { callee := .builtin .append, args := #[s, x], argTypes := #[t, t] })
    (e : TypeId) (i : TypeInfo) (z : Value) (size bytes : Nat) (ht : P.underlying t = some (.slice e)) (hi : P.info? e = some i) (hz : i.zero = some z)
    (hsize : i.size = size) (hby : i.bytes = bytes) (hzs : z.cells.size = size) (hsz : 0 < size)
    (v : Value) (n : Nat) (xs : List Value) (hs : a.eval s = v) (hown : World.offRow w e size v n xs) (ad : Addr) (m c : Nat) (news : List Value) (hx : a.eval x = .slice (some ad) m c) (hl : news.length = m * size) (hnews : ∀ j u, news[j]? = some u → w.cell? (ad.add j) = some u) (h1 : ∀ u ∈ news, u.oneCell' = true)
    (h63 : n + m ≤ maxLen) (hbytes : (n + m) * bytes ≤ 140737488355328)
    (h : ∀ a' c' w', World.offRow w' e size (.slice a' (n + m) c') (n + m) (xs ++ news) → w.grownBy w' v.ownBlock → (∀ g, (Value.slice a' (n + m) c').ownBlock = some g → v.ownBlock = some g ∨ w.heap.size ≤ g) → wpList P ops Q rest (a.put o.dst (.slice a' (n + m) c')) w') : wpList P ops Q (o :: rest) a w :=
  wpList_plain hgd fun _ hK => wp_append_off w s x t ho e i z size bytes ht hi hz hsize hby hzs hsz v n xs hs hown ad m c news hx hl hnews h1 h63 hbytes fun a' c' w' h2 h3 h4 => hK _ _ (h a' c' w' h2 h3 h4)
/-- At a step of a region that draws. -/
theorem step_append_off {ops : Array Oper} {o : Oper} {a : Act} {K : Act → World → Prop} {Q : Exit → Act → World → Prop} {E : Prop} (hgd : o.guard = none) (s x : Operand) (t : TypeId)
    (ho : o.op = .call { callee := .builtin .append, args := #[s, x], argTypes := #[t, t] })
    (e : TypeId) (i : TypeInfo) (z : Value) (size bytes : Nat) (ht : P.underlying t = some (.slice e)) (hi : P.info? e = some i) (hz : i.zero = some z)
    (hsize : i.size = size) (hby : i.bytes = bytes) (hzs : z.cells.size = size) (hsz : 0 < size)
    (v : Value) (n : Nat) (xs : List Value) (hs : a.eval s = v) (hown : World.offRow w e size v n xs) (ad : Addr) (m c : Nat) (news : List Value) (hx : a.eval x = .slice (some ad) m c) (hl : news.length = m * size) (hnews : ∀ j u, news[j]? = some u → w.cell? (ad.add j) = some u) (h1 : ∀ u ∈ news, u.oneCell' = true)
    (h63 : n + m ≤ maxLen) (hbytes : (n + m) * bytes ≤ 140737488355328)
    (h : ∀ a' c' w', World.offRow w' e size (.slice a' (n + m) c') (n + m) (xs ++ news) → w.grownBy w' v.ownBlock → (∀ g, (Value.slice a' (n + m) c').ownBlock = some g → v.ownBlock = some g ∨ w.heap.size ≤ g) → K (a.put o.dst (.slice a' (n + m) c')) w') :
    if Region.wanted o (yielded ops a.tmps) = true then Oper.wp P o a w K Q else E := by
  have hw : Region.wanted o (yielded ops a.tmps) = true := by simp [Region.wanted, hgd]
  rw [if_pos hw]
  exact wp_append_off w s x t ho e i z size bytes ht hi hz hsize hby hzs hsz v n xs hs hown ad m c news hx hl hnews h1 h63 hbytes h
end
end Go.Proofs.YtcnmajndackohaaGreatDoor
