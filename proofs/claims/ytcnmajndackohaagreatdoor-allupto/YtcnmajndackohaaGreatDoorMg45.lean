import Derived.Test.YtcnmajndackohaaGreatDoorMg42
import Derived.Test.YtcnmajndackohaaGreatDoorMg41
import Derived.Test.YtcnmajndackohaaGreatDoorMg39
import Derived.Test.YtcnmajndackohaaGreatDoorMg20
import Derived.Test.YtcnmajndackohaaGreatDoorMg27
import Derived.Test.YtcnmajndackohaaGreatDoorMg40
/-
  The program's line keeps to the document's: Look too.
-/
namespace Go.Proofs.YtcnmajndackohaaGreatDoor
open Go.RowKit
attribute [local go_sem ↓] Go.wp_at_zero Go.wp_at_succ
section
variable {W w : World} {P : Nat} {x : Ln} {F : Nat → Prop} {n : Nat} {a : Nat → Addr} {a0 a1 : Addr}
theorem wlook {Q : Nat} {now wt ot : Int} {bz : Bool} {A : Value → Value → World → Prop} (hA : ∀ vl vs w', A vl vs w' → ∃ n1 n2 b1 b2 c1 c2, vl = .slice b1 n1 c1 ∧ vs = .slice b2 n2 c2) (hW : ∀ vl vs w1 w2, A vl vs w1 → Only (fun i => i = w.heap.size) w1 w2 → A vl vs w2) (c0 : w.cell? ⟨P, 0, none⟩ = some (.pointer (some ⟨Q, 0, none⟩)))
    (hin : ∀ W, Below w.heap.size w W → w.heap.size + 1 ≤ W.heap.size → Calls Tryz.prog 58 #[.pointer (some ⟨Q, 0, none⟩)] W fun e w' => ∃ vl vs, e = .returned (.agg #[.int .i64 now, vl, vs, .int .i64 wt, .int .i64 ot, .bool bz]) ∧ A vl vs w' ∧ Below W.heap.size W w') :
    Calls Tryz.prog 39 #[.pointer (some ⟨P, 0, none⟩)] w fun e w' => ∃ vl vs, e = .returned (.agg #[.int .i64 now, vl, vs, .int .i64 wt, .int .i64 ot, .bool bz]) ∧ A vl vs w' := by
  have H1 := hide hin
  have H2 := hide hA
  have H3 := hide hW
  clear hin hA hW
  have c0a : ∀ ob, (w.alloc ob).cell? ⟨P, 0, none⟩ = some (.pointer (some ⟨Q, 0, none⟩)) := fun ob => (World.cell?_alloc_past (w := w) ob P 0 (World.block_lt_of_cell? _ _ c0)).trans c0
  go_enter Tryz.func39, Tryz.ntmps39
  go_wp2_with fail
  refine (unhide H1 _ (bel_one _) (by simp)).mono ?_
  rintro e w1 ⟨vl, vs, rfl, hA1, hb1⟩
  have hI : Is w1 w.heap.size 84 vzero := (Is.new w 84 vzero).below hb1
  obtain ⟨n1, n2, b1, b2, k1, k2, hv1, hv2⟩ := unhide H2 vl vs w1 hA1
  subst hv1
  subst hv2
  have HA := hide hA1
  have HI := hide hI
  have r0 := hI.cell (j := 0) rfl
  have r1 := hI.cell (j := 1) rfl
  have r2 := hI.cell (j := 2) rfl
  have r3 := hI.cell (j := 3) rfl
  have r4 := hI.cell (j := 4) rfl
  have r5 := hI.cell (j := 5) rfl
  have z0 := hI.frozen 0
  have z1 := hI.frozen 1
  have z2 := hI.frozen 2
  have z3 := hI.frozen 3
  have z4 := hI.frozen 4
  have z5 := hI.frozen 5
  clear hI hA1 hb1 H1 H2 c0 c0a
  go_wp2_with fail
  have HO6 := hide (show Only (fun i => i = w.heap.size) w1 ((((((w1.setCell ⟨w.heap.size, 0, none⟩ (.int .i64 now)).setCell ⟨w.heap.size, 1, none⟩ (.slice b1 n1 k1)).setCell ⟨w.heap.size, 2, none⟩ (.slice b2 n2 k2)).setCell ⟨w.heap.size, 3, none⟩ (.int .i64 wt)).setCell ⟨w.heap.size, 4, none⟩ (.int .i64 ot)).setCell ⟨w.heap.size, 5, none⟩ (.bool bz)) from
    ((((((Only.refl (fun i => i = w.heap.size) w1).setCell (.inl rfl)).setCell (.inl rfl)).setCell (.inl rfl)).setCell (.inl rfl)).setCell (.inl rfl)).setCell (.inl rfl))
  have HI6 := hide (((((((unhide HI).set 0 (.int .i64 now)).set 1 (.slice b1 n1 k1)).set 2 (.slice b2 n2 k2)).set 3 (.int .i64 wt)).set 4 (.int .i64 ot)).set 5 (.bool bz))
  refine bodyPost_ret (res_cell1 rfl _ _ w.heap.size 84 #[.int .i64 now, .slice b1 n1 k1, .slice b2 n2 k2, .int .i64 wt, .int .i64 ot, .bool bz] (0, 0) _ rfl (unhide HI6) Tryz.underlying84 rfl infoView) rfl ?_
  exact ⟨_, _, rfl, unhide H3 _ _ _ _ (unhide HA) (unhide HO6)⟩
/-- What Look leaves. -/
def LkA (w : World) (vl vs : Value) (w' : World) : Prop := ∃ zl zs, w'.ownsRow (w.heap.size + 1) 3 1 vl zl.length (icells zl) ∧ w'.ownsRow (w.heap.size + 1) 3 1 vs zs.length (icells zs) ∧ (∀ g, vl.ownBlock = some g → vs.ownBlock ≠ some g) ∧ Below w.heap.size w w'
theorem lin_look (h : LinR W w P x F) (hm : Sml x n) (hn : n ≤ 2000000) :
    Calls Tryz.prog 39 #[.pointer (some ⟨P, 0, none⟩)] w fun e w' => ∃ (vl vs : Value) (zl zs : List Int), e = .returned (.agg #[.int .i64 x.now, vl, vs, .int .i64 (x.waits : Int), .int .i64 (x.waiting (-1) : Int), .bool x.busy]) ∧
      w'.ownsRow w.heap.size 3 1 vl zl.length (zl.map fun (k : Int) => .int .i64 k) ∧ w'.ownsRow w.heap.size 3 1 vs zs.length (zs.map fun (k : Int) => .int .i64 k) ∧ (∀ g, vl.ownBlock = some g → vs.ownBlock ≠ some g) ∧ Below w.heap.size w w' := by
  obtain ⟨s, rel, hp, hs, h6, ho, hi, hF, hW⟩ := h
  have c0 := hi.cell (j := 0) rfl
  have hl := lbn_of hm hn h6
  have hGl := hs.Glen
  have hpk := hl.pk
  have hwl := hs.wait_le (-1)
  have hOl : s.O.length = x.waiting (-1) := by
    rw [hs.O, ← List.countP_eq_length_filter]
    unfold Ln.waiting
    exact List.countP_congr fun p _ => by simp [othB, wt, and_assoc]
  have hwa : ∀ k, 0 ≤ waF s.fs k := fun k => by
    unfold waF
    cases hf : s.fs k with
    | none => exact Int.le_refl _
    | some f => obtain ⟨_, _, _, _, _, e5, _⟩ := hs.val k f hf; show 0 ≤ f.wa; omega
  have hwt := hs.waits
  have hws : x.waits ≤ x.pk.length := List.countP_le_length
  have hbz : s.busy = x.busy := hs.busy
  refine (wlook (w := w) (P := P) (A := LkA w) (now := x.now) (wt := (x.waits : Int)) (ot := (x.waiting (-1) : Int)) (bz := x.busy) ?_ ?_ c0 ?_).mono ?_
  · rintro vl vs w' ⟨zl, zs, h1, h2, _⟩
    obtain ⟨b1, k1, e1⟩ := row_lenL h1
    obtain ⟨b2, k2, e2⟩ := row_lenL h2
    exact ⟨_, _, _, _, _, _, e1, e2⟩
  · rintro vl vs w1 w2 ⟨zl, zs, h1, h2, h3, h4⟩ hO
    exact ⟨zl, zs, ownsRow_only h1 hO (fun g hg e => by have := (ownsRow_lt h1 g hg).1; omega), ownsRow_only h2 hO (fun g hg e => by have := (ownsRow_lt h2 g hg).1; omega), h3, bel_sets h4 hO (Nat.le_refl _)⟩
  · intro V hV hsz
    have hc := plook V P s (hp.below hV) (by omega) (by omega) x.fl.length (fun k f hf => hs.lt hf) (by omega) hwa (by rw [hwt]; omega)
    refine hc.mono ?_
    rintro e w' ⟨vl, vs, zl, zs, rfl, h1, h2, h3, h4, _⟩
    rw [hwt, hs.now, hbz, hOl]
    exact ⟨vl, vs, rfl, ⟨zl, zs, row_base h1 hsz, row_base h2 hsz, h3, bel_then hV h4⟩, h4⟩
  · rintro e w' ⟨vl, vs, rfl, zl, zs, h1, h2, h3, h4⟩
    exact ⟨vl, vs, zl, zs, rfl, row_base h1 (Nat.le_succ _), row_base h2 (Nat.le_succ _), h3, h4⟩
end
end Go.Proofs.YtcnmajndackohaaGreatDoor
/-
  The program's line keeps to the document's: Setup and Teardown too.
-/
namespace Go.Proofs.YtcnmajndackohaaGreatDoor
open Go.RowKit
attribute [local go_sem ↓] Go.wp_at_zero Go.wp_at_succ
set_option maxHeartbeats 1000000 in
theorem violation_chn (l : List ByteArray) (b a0 a1 : Addr) (w : World) (hg : Gl w a0 a1) :
    Calls Tryz.prog 27 #[chn l b] w fun e w' => e = .returned (.int .i64 0) ∧ Below w.heap.size w w' := by
  have HG := hide hg
  clear hg
  generalize hE : chn l b = E
  have HE := hide hE
  clear hE
  go_enter Tryz.func27, Tryz.ntmps27
  go_wp2_with fail
  rw [← unhide HE]
  refine (as_top l b w.heap.size _ ((unhide HG).below (bel_one _)).et).mono ?_
  rintro e w1 ⟨rfl, hb⟩
  have HB := hide (bel_then (bel_one _) hb)
  clear hb
  rw [unhide HE]
  go_wp2_with fail
  go_ret
  exact ⟨rfl, unhide HB⟩
section
variable {W w : World} {P : Nat} {x : Ln} {F : Nat → Prop} {n : Nat} {a : Nat → Addr} {a0 a1 : Addr}
theorem wteardown {Q : Nat} {A : Value → World → Prop} {T : World → Prop} {z : Int} (k : Int) (c0 : w.cell? ⟨P, 0, none⟩ = some (.pointer (some ⟨Q, 0, none⟩))) (hin : Calls Tryz.prog 87 #[.pointer (some ⟨Q, 0, none⟩), .int .i64 k] w fun e w' => ∃ E, e = .returned E ∧ A E w')
    (hout : ∀ E W, A E W → Calls Tryz.prog 28 #[E] W fun e w' => e = .returned (.int .i64 z) ∧ T w') :
    Calls Tryz.prog 57 #[.pointer (some ⟨P, 0, none⟩), .int .i64 k] w fun e w' => e = .returned (.int .i64 z) ∧ T w' := by
  have H1 := hide hin
  have H2 := hide hout
  clear hin hout
  go_enter Tryz.func57, Tryz.ntmps57
  go_wp2_with fail
  refine (unhide H1).mono ?_
  rintro e w1 ⟨E, rfl, hA⟩
  have H3 := hide (unhide H2 E w1 hA)
  clear hA H1 H2 c0
  go_wp2_with fail
  refine (unhide H3).mono ?_
  rintro e w2 ⟨rfl, hT⟩
  go_wp2_with fail
  try go_ret
  try exact ⟨rfl, hT⟩
theorem lin_setup (hgW : GlA W a a0 a1) (hbW : Below W.heap.size W w) (h : LinR W w P x F) (f : Fl) (hfl : x.fl.length < 1500000) :
    Calls Tryz.prog 56 #[.pointer (some ⟨P, 0, none⟩), flA f] w fun e w' => e = .returned (.tuple #[.int .i64 (x.setup f).1.1, .int .i64 (x.setup f).1.2.1, .int .i64 (x.setup f).1.2.2]) ∧ Sty W w P (x.setup f).2 F w' := by
  have hR := h
  have hg := hgW.below hbW
  have hb := hbW.size
  obtain ⟨s, rel, hp, hs, h6, ho, hi, hF, hW⟩ := h
  have c0 := hi.cell (j := 0) rfl
  have hnum := hs.num
  have hdom : ∀ k, x.fl.length ≤ k → s.fs k = none := fun k hk => by
    cases hf : s.fs k with
    | none => rfl
    | some g => have := hs.lt hf; omega
  have hadr : ∀ k, x.fl.length ≤ k → adrs s.fs k = none := fun k hk => by unfold adrs; rw [hdom k hk]; rfl
  have hcnt := hs.count
  have hshp := hs.shapes
  have hmays : ∀ k g, s.fs k = some g → g.f.may := fun k g hg => by
    obtain ⟨st, e1, e2, _⟩ := hs.val k g hg
    rw [e2]; exact hs.inv.may st (List.mem_of_getElem? e1)
  have bad : ∀ (b : Addr) (c : Int), (∀ V, Below w.heap.size w V → Calls Tryz.prog 113 #[.pointer (some ⟨s.Q, 0, none⟩), flA f] V fun e w' => (∃ l, e = .returned (chn l b)) ∧ Below V.heap.size V w') →
      (∀ l V, GlA V a a0 a1 → Calls Tryz.prog 28 #[chn l b] V fun e w' => e = .returned (.int .i64 c) ∧ Below V.heap.size V w') →
      Calls Tryz.prog 56 #[.pointer (some ⟨P, 0, none⟩), flA f] w fun e w' => e = .returned (.tuple #[.int .i64 0, .int .i64 0, .int .i64 c]) ∧ Sty W w P x F w' := fun b c h1 h2 => by
    refine wsetup (A := fun E w' => ∃ l, E = chn l b ∧ Below w.heap.size w w') (B := fun E w' => ∃ l, E = chn l b ∧ Below w.heap.size w w') (S0 := fun _ => False) f hi (fun _ c => c.elim) (fun V hV => (psetup_bad V s.Q f b fun U hU => h1 U (bel_then hV hU)).mono ?_) ?_ ?_
    · rintro e w' ⟨⟨l, rfl⟩, hb1⟩; exact ⟨_, rfl, ⟨l, rfl, bel_then hV hb1⟩, Only.of_below hb1⟩
    · rintro E w1 ⟨l, rfl, hb1⟩
      refine (violation_chn l b a0 a1 w1 (hg.below hb1).g.toGl).mono ?_
      rintro e w2 ⟨rfl, hb2⟩
      exact ⟨rfl, l, rfl, bel_then hb1 hb2⟩
    · rintro E w1 ⟨l, rfl, hb1⟩
      refine (h2 l w1 (hg.below hb1)).mono ?_
      rintro e w2 ⟨rfl, hb2⟩
      exact ⟨rfl, sty_of hR (bel_then hb1 hb2)⟩
  by_cases hm : f.may
  · have hmB : ¬ f.mayB = false := by rw [(mayB_iff f).2 hm]; decide
    by_cases hc : 6 < (f :: x.live).length
    · have e : x.setup f = ((0, 0, 2), x) := by unfold Ln.setup; rw [if_neg hmB, if_pos hc]
      rw [e]
      refine bad _ 2 (fun V hV => padmit_full V P s (hp.below hV) f hm x.fl.length hadr (by omega) ?_ a a0 a1 (hg.below hV)) (fun l V hG => errno_ErrFull l a V hG.s)
      rw [hcnt]
      rw [List.length_cons] at hc
      omega
    · have hc5 : x.live.length < 6 := by simp at hc; omega
      have hfit : ∀ V, Below w.heap.size w V → Calls Tryz.prog 113 #[.pointer (some ⟨s.Q, 0, none⟩), flA f] V fun e w' => e = .returned (fitV (f :: x.live)) ∧ Below V.heap.size V w' := fun V hV => by
        have := padmit_fit V P s (hp.below hV) f hm x.fl.length hadr (by rw [hcnt]; exact hc5) hmays
        rw [hshp] at this
        exact this
      by_cases hv : 0 < viol (f :: x.live)
      · have e : x.setup f = ((0, viol (f :: x.live), 3), x) := by unfold Ln.setup; rw [if_neg hmB, if_neg hc, if_pos hv]
        rw [e]
        rw [show fitV (f :: x.live) = vio (viol (f :: x.live)) from fitV_some (by omega)] at hfit
        refine wsetup (A := fun E w' => E = plc stpQ (vio (viol (f :: x.live))) ∧ Below w.heap.size w w') (B := fun E w' => E = plc stpQ (vio (viol (f :: x.live))) ∧ Below w.heap.size w w') (S0 := fun _ => False) f hi (fun _ c => c.elim) (fun V hV => (psetup_late V s.Q f (viol (f :: x.live)) fun U hU => hfit U (bel_then hV hU)).mono ?_) ?_ ?_
        · rintro e w' ⟨rfl, hb1⟩; exact ⟨_, rfl, ⟨rfl, bel_then hV hb1⟩, Only.of_below hb1⟩
        · rintro E w1 ⟨rfl, hb1⟩
          refine (violation_some stpQ _ a0 a1 w1 (hg.below hb1).g.toGl).mono ?_
          rintro e w2 ⟨rfl, hb2⟩
          exact ⟨rfl, rfl, bel_then hb1 hb2⟩
        · rintro E w1 ⟨rfl, hb1⟩
          refine (errno_late stpQ _ a0 a1 w1 (hg.below hb1).g.toGl).mono ?_
          rintro e w2 ⟨rfl, hb2⟩
          exact ⟨rfl, sty_of hR (bel_then hb1 hb2)⟩
      · have e : x.setup f = (((x.fl.length : Int), 0, 0), { x with fl := x.fl ++ [⟨f, 0⟩] }) := by unfold Ln.setup; rw [if_neg hmB, if_neg hc, if_neg hv]
        have hod : ∃ B, Od { x with fl := x.fl ++ [⟨f, 0⟩] } B := by
          obtain ⟨B, hB⟩ := hs.od
          have := od_setup hB f
          rw [e] at this
          exact ⟨B, this⟩
        rw [e]
        have v0 := (viol_range (f :: x.live)).1
        rw [show fitV (f :: x.live) = .nilIface from fitV_none (by omega)] at hfit
        refine wsetup (n := (x.fl.length : Int)) (A := fun E w' => E = .nilIface ∧ ∃ b o', PTo w P s w' { s with fs := upd s.fs s.num (FS.fresh b f), num := s.num + 1, o := o' }) (B := fun E w' => E = .nilIface ∧ ∃ b o', PTo w P s w' { s with fs := upd s.fs s.num (FS.fresh b f), num := s.num + 1, o := o' }) (S0 := fun i => s.o i ≠ 0) f hi (fun i c => ⟨Classical.byContradiction fun g => c (hp.free i (by omega)), fun e => c (by rw [e]; exact ho)⟩) (fun V hV => (psetup_ok V P s (hp.below hV) f hm (fun k hk => hdom k (by omega)) (by omega) fun U hU => hfit U (bel_then hV hU)).mono ?_) ?_ ?_
        · rintro e w' ⟨rfl, b, o', hT⟩
          exact ⟨_, by rw [hnum], ⟨rfl, b, o', ((PTo.refl hp).below hV).trans hT⟩, hT.ho⟩
        · rintro E w1 ⟨rfl, b, o', hT⟩
          refine (violation_none w1).mono ?_
          rintro e w2 ⟨rfl, hb2⟩
          exact ⟨rfl, rfl, b, o', hT.below hb2⟩
        · rintro E w1 ⟨rfl, b, o', hT⟩
          obtain ⟨F', q1, q2, q3⟩ := LinR.to ho hi hF hW hb hT (hs.comes hm hod b o') (by show (x.fl ++ [_]).length ≤ _; rw [List.length_append]; show x.fl.length + 1 ≤ _; omega)
          refine (errno_none w1 (hgW.s.sts.below (line_below hbW hW q2))).mono ?_
          rintro e w2 ⟨rfl, rfl⟩
          exact ⟨rfl, F', q1, q2, q3⟩
  · have e : x.setup f = ((0, 0, 1), x) := by
      unfold Ln.setup
      rw [if_pos]
      rw [← Bool.not_eq_true]
      exact fun c => hm ((mayB_iff f).1 c)
    rw [e]
    exact bad _ 1 (fun V hV => padmit_bad V s.Q f hm a0 a1 (hg.below hV).g) (fun l V hG => errno_arg l a0 a1 V hG.g.toGl)
theorem lin_teardown (hgW : GlA W a a0 a1) (hbW : Below W.heap.size W w) (h : LinR W w P x F) (hm : Sml x n) (hn : n ≤ 2000000) (k : Int) (k0 : -9223372036854775808 ≤ k) (k1 : k ≤ 9223372036854775807) :
    Calls Tryz.prog 57 #[.pointer (some ⟨P, 0, none⟩), .int .i64 k] w fun e w' => e = .returned (.int .i64 (x.teardown k).1) ∧ Sty W w P (x.teardown k).2 F w' := by
  have hR := h
  have hg := hgW.below hbW
  have hb := hbW.size
  obtain ⟨s, rel, hp, hs, h6, ho, hi, hF, hW⟩ := h
  have c0 := hi.cell (j := 0) rfl
  have hl := lbn_of hm hn h6
  by_cases h4 : x.at? k = none ∨ ∃ st, x.at? k = some st ∧ st.is ≠ 0
  · have e : x.teardown k = (4, x) := by
      unfold Ln.teardown
      rcases h4 with h4 | ⟨st, h4, h5⟩
      · rw [h4]
      · rw [h4]; simp only; rw [if_pos h5]
    rw [e]
    refine wteardown (A := fun E w' => ∃ l, E = chn l (a 3) ∧ Below w.heap.size w w') k c0 ((ptear_none w P s hp k k0 k1 (live_none hs k h4) a a0 a1 hg).mono ?_) ?_
    · rintro e w' ⟨⟨l, rfl⟩, hb1⟩; exact ⟨_, rfl, l, rfl, hb1⟩
    · rintro E w1 ⟨l, rfl, hb1⟩
      refine (errno_ErrNone l a w1 (hg.s.below hb1)).mono ?_
      rintro e w2 ⟨rfl, hb2⟩
      exact ⟨rfl, sty_of hR (bel_then hb1 hb2)⟩
  · have kz : 0 ≤ k := by
      rcases Int.lt_or_le k 0 with g | g
      · exact absurd (.inl (by unfold Ln.at?; rw [if_neg (by omega)])) h4
      · exact g
    obtain ⟨j, rfl⟩ := Int.eq_ofNat_of_zero_le kz
    have hat : x.at? (j : Int) = x.fl[j]? := by unfold Ln.at?; rw [if_pos (by omega), Int.toNat_natCast]
    cases hst : x.fl[j]? with
    | none => exact absurd (.inl (hat.trans hst)) h4
    | some st =>
      have h0 : st.is = 0 := Classical.byContradiction fun c => h4 (.inr ⟨st, hat.trans hst, c⟩)
      obtain ⟨f, hf⟩ := (hs.dom j).2 ⟨st, hst, by omega⟩
      obtain ⟨st', e1, e2, e3, _⟩ := hs.val j f hf
      rw [hst] at e1
      cases e1
      have ht : f.torn = false := by rw [e3, h0]; rfl
      have e : x.teardown (j : Int) = (0, (x.torn j f.f).away) := by
        unfold Ln.teardown
        rw [hat, hst]
        simp only
        rw [if_neg (by omega), Int.toNat_natCast, e2]
        rfl
      rw [e]
      refine wteardown (A := fun E w' => E = .nilIface ∧ PSto w P s w' (x.torn j f.f).away) (j : Int) c0 ((ptear_ok w P x s rel j hp hs hl k1 f hf ht).mono ?_) ?_
      · rintro e w' ⟨rfl, hT⟩; exact ⟨_, rfl, rfl, hT⟩
      · rintro E w1 ⟨rfl, s', rel', hT, hs'⟩
        obtain ⟨F', q1, q2, q3⟩ := LinR.to ho hi hF hW hb hT hs' (by
          rw [away_fl]
          show (x.fl.set j ⟨f.f, 1⟩).length ≤ _
          rw [List.length_set]; exact h6)
        refine (errno_none w1 (hgW.s.sts.below (line_below hbW hW q2))).mono ?_
        rintro e w2 ⟨rfl, rfl⟩
        exact ⟨rfl, F', q1, q2, q3⟩
theorem lineJ (hgW : GlA W a a0 a1) : LineJ W (LinR W) where
  ge := by
    rintro w P x F ⟨s, rel, hp, hs, h6, ho, hi, hF, hW⟩ i h
    refine ⟨hW i h, ?_⟩
    rcases (hF i).1 h with g | rfl
    · exact Classical.byContradiction fun c => g (hp.free i (by omega))
    · exact hi.lt
  inv := fun ⟨_, _, _, hs, _⟩ => hs.inv
  keep := by
    rintro w w' P x F S ⟨s, rel, hp, hs, h6, ho, hi, hF, hW⟩ hO hS
    exact ⟨s, rel, hp.keep hO (fun i h => Classical.byContradiction fun c => hS i h ((hF i).2 (.inl c))), hs, h6, ho, hi.only hO (fun h => hS P h ((hF P).2 (.inr rfl))), hF, hW⟩
  new := fun w v l hb hv hm hl => lin_new hb v l hv hm hl
  send := fun w P x F n k z hb hR hm hn k0 k1 z0 z1 => lin_send hgW hb hR hm hn k z k0 k1 z0 z1
  other := fun w P x F n z hb hR hm hn z0 z1 => lin_other hgW hb hR hm hn z z0 z1
  run := fun w P x F n t hb hR hm hn t0 t1 => lin_run hgW hb hR hm hn t t0 t1
  gone := fun w P x F n hb hR hm hn => lin_gone hb hR hm hn
  setup := fun w P x F n f hb hR hm hn hl => lin_setup hgW hb hR f hl
  teardown := fun w P x F n k hb hR hm hn k0 k1 => lin_teardown hgW hb hR hm hn k k0 k1
theorem lineK (hgW : GlA W a a0 a1) : LineK W (LinR W) where
  toLineJ := lineJ hgW
  look := fun _ _ _ _ _ _ hR hm hn => lin_look hR hm hn
end
end Go.Proofs.YtcnmajndackohaaGreatDoor
/-
  The program's line keeps to the document's: Look's lists are the document's.
-/
namespace Go.Proofs.YtcnmajndackohaaGreatDoor
open Go.RowKit
theorem nats_len (l : List Nat) : (nats l).length = l.length := by unfold nats; rw [List.length_map]
/-- And what Look tells, whole. -/
structure LineL (W : World) (R : World → Nat → Ln → (Nat → Prop) → Prop) : Prop extends LineK W R where
  looks : ∀ (w : World) (P : Nat) (x : Ln) (F : Nat → Prop) (n : Nat), Below W.heap.size W w → R w P x F → Sml x n → n ≤ 2000000 →
    Calls Tryz.prog 39 #[.pointer (some ⟨P, 0, none⟩)] w fun e w' => ∃ (vl vs : Value), e = .returned (.agg #[.int .i64 x.now, vl, vs, .int .i64 (x.waits : Int), .int .i64 (x.waiting (-1) : Int), .bool x.busy]) ∧
      w'.ownsRow w.heap.size 3 1 vl (x.ids 0).length (icells (nats (x.ids 0))) ∧ w'.ownsRow w.heap.size 3 1 vs (x.ids 1).length (icells (nats (x.ids 1))) ∧ (∀ g, vl.ownBlock = some g → vs.ownBlock ≠ some g) ∧ Below w.heap.size w w'
section
variable {W w : World} {P : Nat} {x : Ln} {F : Nat → Prop} {n : Nat} {a : Nat → Addr} {a0 a1 : Addr}
/-- What Look leaves. -/
def LkF (w : World) (x : Ln) (vl vs : Value) (w' : World) : Prop := w'.ownsRow (w.heap.size + 1) 3 1 vl (x.ids 0).length (icells (nats (x.ids 0))) ∧ w'.ownsRow (w.heap.size + 1) 3 1 vs (x.ids 1).length (icells (nats (x.ids 1))) ∧ (∀ g, vl.ownBlock = some g → vs.ownBlock ≠ some g) ∧ Below w.heap.size w w'
theorem lin_looks (h : LinR W w P x F) (hm : Sml x n) (hn : n ≤ 2000000) :
    Calls Tryz.prog 39 #[.pointer (some ⟨P, 0, none⟩)] w fun e w' => ∃ (vl vs : Value), e = .returned (.agg #[.int .i64 x.now, vl, vs, .int .i64 (x.waits : Int), .int .i64 (x.waiting (-1) : Int), .bool x.busy]) ∧
      w'.ownsRow w.heap.size 3 1 vl (x.ids 0).length (icells (nats (x.ids 0))) ∧ w'.ownsRow w.heap.size 3 1 vs (x.ids 1).length (icells (nats (x.ids 1))) ∧ (∀ g, vl.ownBlock = some g → vs.ownBlock ≠ some g) ∧ Below w.heap.size w w' := by
  obtain ⟨s, rel, hp, hs, h6, ho, hi, hF, hW⟩ := h
  have c0 := hi.cell (j := 0) rfl
  have hl := lbn_of hm hn h6
  have hGl := hs.Glen
  have hpk := hl.pk
  have hwl := hs.wait_le (-1)
  have hOl : s.O.length = x.waiting (-1) := by
    rw [hs.O, ← List.countP_eq_length_filter]
    unfold Ln.waiting
    exact List.countP_congr fun p _ => by simp [othB, wt, and_assoc]
  have hwa : ∀ k, 0 ≤ waF s.fs k := fun k => by
    unfold waF
    cases hf : s.fs k with
    | none => exact Int.le_refl _
    | some f => obtain ⟨_, _, _, _, _, e5, _⟩ := hs.val k f hf; show 0 ≤ f.wa; omega
  have hwt := hs.waits
  have hws : x.waits ≤ x.pk.length := List.countP_le_length
  have hbz : s.busy = x.busy := hs.busy
  refine (wlook (w := w) (P := P) (A := LkF w x) (now := x.now) (wt := (x.waits : Int)) (ot := (x.waiting (-1) : Int)) (bz := x.busy) ?_ ?_ c0 ?_).mono ?_
  · rintro vl vs w' ⟨h1, h2, _⟩
    obtain ⟨b1, k1, e1⟩ := row_lenL h1
    obtain ⟨b2, k2, e2⟩ := row_lenL h2
    exact ⟨_, _, _, _, _, _, e1, e2⟩
  · rintro vl vs w1 w2 ⟨h1, h2, h3, h4⟩ hO
    exact ⟨ownsRow_only h1 hO (fun g hg e => by have := (ownsRow_lt h1 g hg).1; omega), ownsRow_only h2 hO (fun g hg e => by have := (ownsRow_lt h2 g hg).1; omega), h3, bel_sets h4 hO (Nat.le_refl _)⟩
  · intro V hV hsz
    have hc := plook V P s (hp.below hV) (by omega) (by omega) x.fl.length (fun k f hf => hs.lt hf) (by omega) hwa (by rw [hwt]; omega)
    refine hc.mono ?_
    rintro e w' ⟨vl, vs, zl, zs, rfl, h1, h2, h3, h4, yl, ys, e1, e2, e3, e4⟩
    rw [hs.ids false] at e3
    rw [hs.ids true] at e4
    rw [srt_eq e3 (nats_sorted x _)] at e1
    rw [srt_eq e4 (nats_sorted x _)] at e2
    have e1' : zl = nats (x.ids 0) := e1
    have e2' : zs = nats (x.ids 1) := e2
    rw [e1', nats_len] at h1
    rw [e2', nats_len] at h2
    rw [hwt, hs.now, hbz, hOl]
    exact ⟨vl, vs, rfl, ⟨row_base h1 hsz, row_base h2 hsz, h3, bel_then hV h4⟩, h4⟩
  · rintro e w' ⟨vl, vs, rfl, h1, h2, h3, h4⟩
    exact ⟨vl, vs, rfl, row_base h1 (Nat.le_succ _), row_base h2 (Nat.le_succ _), h3, h4⟩
theorem lineL (hgW : GlA W a a0 a1) : LineL W (LinR W) where
  toLineK := lineK hgW
  looks := fun _ _ _ _ _ _ hR hm hn => lin_looks hR hm hn
end
end Go.Proofs.YtcnmajndackohaaGreatDoor
/-
  The law's world in memory: its lines, whose each block is.
-/
namespace Go.Proofs.YtcnmajndackohaaGreatDoor
open Go.RowKit
section
variable {W w w' : World} {o o' : Whose} {c P Q : Nat} {x y : Ln} {S : Nat → Prop}
/-- The program's line at P, of tag c. -/
def PLn (W w : World) (o : Whose) (c P : Nat) (x : Ln) : Prop := ∃ F, LinR W w P x F ∧ ∀ i, F i → o i = c
/-- The document's line at Q, of tag c. -/
def QLn (w : World) (o : Whose) (c Q : Nat) (x : Ln) : Prop := ∃ o1 vf vp vb, RefV w Q x o1 vf vp vb ∧ ∀ i, o1 i ≠ 0 → o i = c
theorem linr_lt {a : Nat → Addr} {a0 a1 : Addr} (hg : GlA W a a0 a1) {F : Nat → Prop} (h : LinR W w P x F) : ∀ i, F i → W.heap.size ≤ i ∧ i < w.heap.size := (lineL hg).ge h
theorem PLn.keep {a : Nat → Addr} {a0 a1 : Addr} (hg : GlA W a a0 a1) (h : PLn W w o c P x) (hO : Only S w w') (hs : ∀ i, S i → o i ≠ c) (ho' : ∀ i, i < w.heap.size → o i = c → o' i = c) : PLn W w' o' c P x := by
  obtain ⟨F, hL, hF⟩ := h
  exact ⟨F, (lineL hg).keep hL hO fun i hi k => hs i hi (hF i k), fun i hi => ho' i (linr_lt hg hL i hi).2 (hF i hi)⟩
theorem QLn.keep (h : QLn w o c Q x) (hO : Only S w w') (hs : ∀ i, S i → o i ≠ c) (ho' : ∀ i, i < w.heap.size → o i = c → o' i = c) : QLn w' o' c Q x := by
  obtain ⟨o1, vf, vp, vb, hV, hF⟩ := h
  have z : ∀ i, S i → o1 i = 0 := fun i hi => Classical.byContradiction fun k => hs i hi (hF i k)
  refine ⟨_, vf, vp, vb, hV.only hO z, fun i hi => ?_⟩
  rcases Nat.lt_or_ge i w.heap.size with g | g
  · rw [give_old g] at hi
    exact ho' i g (hF i hi)
  · exfalso
    apply hi
    unfold Whose.give
    split
    · rfl
    · exact hV.fr i g
/-- The lines that are told. -/
def Lns (W w : World) (o : Whose) (ps qs : List Nat) (xs : List Ln) (K : Nat → Prop) : Prop :=
  ∀ (i P Q : Nat) (x : Ln), ps[i]? = some P → qs[i]? = some Q → xs[i]? = some x → K i → PLn W w o (9 + 2 * i) P x ∧ QLn w o (10 + 2 * i) Q x
theorem Lns.keep {a : Nat → Addr} {a0 a1 : Addr} (hg : GlA W a a0 a1) {ps qs : List Nat} {xs : List Ln} {K : Nat → Prop} (h : Lns W w o ps qs xs K) (hO : Only S w w') (hs : ∀ i, S i → ∀ k, K k → o i ≠ 9 + 2 * k ∧ o i ≠ 10 + 2 * k) (ho' : ∀ i, i < w.heap.size → ∀ k, K k → (o i = 9 + 2 * k ∨ o i = 10 + 2 * k) → o' i = o i) : Lns W w' o' ps qs xs K := by
  intro i P Q x h1 h2 h3 hk
  obtain ⟨hp, hq⟩ := h i P Q x h1 h2 h3 hk
  exact ⟨hp.keep hg hO (fun j hj => (hs j hj i hk).1) (fun j hj e => (ho' j hj i hk (.inl e)).trans e), hq.keep hO (fun j hj => (hs j hj i hk).2) (fun j hj e => (ho' j hj i hk (.inr e)).trans e)⟩
end
/-- A list that has come out and bears no mark yet. -/
structure Lse where
  t : TypeId
  size : Nat
  v : Value
  n : Nat
  cs : List Value
def Lse.at (r : Lse) (W w : World) (o : Whose) : Prop := w.ownsRow W.heap.size r.t r.size r.v r.n r.cs ∧ ∀ g, r.v.ownBlock = some g → o g = 0
theorem Lse.at.keep {r : Lse} {W w w' : World} {o o' : Whose} {S : Nat → Prop} (h : r.at W w o) (hO : Only S w w') (hs : ∀ i, S i → r.v.ownBlock ≠ some i) (ho' : ∀ i, i < w.heap.size → r.v.ownBlock = some i → o' i = o i) : r.at W w' o' :=
  ⟨ownsRow_only h.1 hO fun g hg k => hs g k hg, fun g hg => (ho' g (ownsRow_lt h.1 g hg).2 hg).trans (h.2 g hg)⟩
/-- The world while line k is called: the program's is x, the document's y. -/
def Wk (W w : World) (B : Nat) (vv : Value × Value) (ps qs : List Nat) (xs : List Ln) (k P Q : Nat) (x y : Ln) (gl : List Value) (gm : List Int) (il : List Value) (im : List Int) (L : List Lse) : Prop :=
  ∃ o vs, (vs 0 = vv.1 ∧ vs 1 = vv.2) ∧ WdC w B o vs (lsW ps qs gl gm il im) ∧ Mks w o gl gm il im ∧ Lns W w o ps qs xs (fun i => i ≠ k) ∧ PLn W w o (9 + 2 * k) P x ∧ QLn w o (10 + 2 * k) Q y ∧ (∀ r ∈ L, r.at W w o) ∧ Below W.heap.size W w ∧ ∀ i, o i ≠ 0 → W.heap.size ≤ i
section
variable {W w w1 : World} {B : Nat} {vv : Value × Value} {ps qs : List Nat} {xs : List Ln} {k P Q : Nat} {x y : Ln} {gl : List Value} {gm : List Int} {il : List Value} {im : List Int} {L : List Lse} {a : Nat → Addr} {a0 a1 : Addr}
theorem Wk.below (hg : GlA W a a0 a1) (h : Wk W w B vv ps qs xs k P Q x y gl gm il im L) (hb : Below w.heap.size w w1) : Wk W w1 B vv ps qs xs k P Q x y gl gm il im L := by
  obtain ⟨o, vs, hvv, h1, hm, h2, h3, h4, h5, h6, h7⟩ := h
  have hO : Only (fun _ => False) w w1 := Only.of_below hb
  have hf : o.free w1 := fun i hi => h1.fr i (Nat.le_trans hb.size hi)
  refine ⟨o, vs, hvv, h1.keep hO (fun _ k => k.elim) (fun _ _ _ _ => rfl) hf, hm.keep hO (fun _ k => k.elim) (fun _ _ e => e), h2.keep hg hO (fun _ k => k.elim) (fun _ _ _ _ _ => rfl), h3.keep hg hO (fun _ k => k.elim) (fun _ _ e => e), h4.keep hO (fun _ k => k.elim) (fun _ _ e => e), fun r hr => (h5 r hr).keep hO (fun _ k => k.elim) (fun _ _ _ => rfl), h6.trans (hb.mono h6.size), h7⟩
/-- A call of the program's line, which may bring a list. -/
theorem Wk.prog (hg : GlA W a a0 a1) (h : Wk W w B vv ps qs xs k P Q x y gl gm il im L) :
    ∃ F, LinR W w P x F ∧ ∀ (w1 : World) (x' : Ln) (F' : Nat → Prop) (L' : List Lse), LinR W w1 P x' F' → Only F w w1 → (∀ i, F' i → F i ∨ w.heap.size ≤ i) →
      (∀ r ∈ L', w1.ownsRow w.heap.size r.t r.size r.v r.n r.cs ∧ ∀ g, r.v.ownBlock = some g → ¬ F' g) → Wk W w1 B vv ps qs xs k P Q x' y gl gm il im (L' ++ L) := by
  obtain ⟨o, vs, hvv, h1, hm, h2, ⟨F, hL, hF⟩, h4, h5, h6, h7⟩ := h
  refine ⟨F, hL, fun w1 x' F' L' hL' hO hF' hLs => ?_⟩
  have hW := hL'
  have hlt := linr_lt hg hL
  have hlt' := linr_lt hg hL'
  have hsz : w.heap.size ≤ w1.heap.size := hO.size
  have hs : ∀ i, F i → o i = 9 + 2 * k := hF
  -- the new blocks are the line's, but for the lists'
  let o1 : Whose := fun i => if i < w.heap.size then o i else if L'.any (fun r => r.v.ownBlock == some i) then 0 else if i < w1.heap.size then 9 + 2 * k else 0
  have old : ∀ i, i < w.heap.size → o1 i = o i := fun i hi => if_pos hi
  have hf : o1.free w1 := fun i hi => by
    show (if i < w.heap.size then o i else if L'.any (fun r => r.v.ownBlock == some i) then 0 else if i < w1.heap.size then 9 + 2 * k else 0) = 0
    rw [if_neg (by omega)]
    split
    · rfl
    · rw [if_neg (by omega)]
  refine ⟨o1, vs, hvv, h1.keep hO (fun i hi => by rw [hs i hi]; omega) (fun i hi _ _ => old i hi) hf, hm.keep hO (fun i hi => by rw [hs i hi]; omega) (fun i hi e => (old i hi).trans e), h2.keep hg hO (fun i hi j hj => by rw [hs i hi]; exact ⟨fun e => hj (by omega), by omega⟩) (fun i hi _ _ _ => old i hi), ⟨F', hL', fun i hi => ?_⟩, h4.keep hO (fun i hi => by rw [hs i hi]; omega) (fun i hi e => (old i hi).trans e), fun r hr => ?_, ?_, fun i hi => ?_⟩
  · rcases hF' i hi with g | g
    · rw [old i (hlt i g).2]; exact hF i g
    · have hn : L'.any (fun r => r.v.ownBlock == some i) = false := by
        rw [List.any_eq_false]
        intro r hr e
        exact (hLs r hr).2 i (by simpa using e) hi
      show (if i < w.heap.size then o i else if L'.any (fun r => r.v.ownBlock == some i) then 0 else if i < w1.heap.size then 9 + 2 * k else 0) = 9 + 2 * k
      rw [if_neg (by omega), hn, if_neg (by decide), if_pos (hlt' i hi).2]
  · rcases List.mem_append.1 hr with hr | hr
    · refine ⟨row_base (hLs r hr).1 h6.size, fun g hgb => ?_⟩
      have hge := (ownsRow_lt (hLs r hr).1 g hgb).1
      show (if g < w.heap.size then o g else if L'.any (fun r => r.v.ownBlock == some g) then 0 else if g < w1.heap.size then 9 + 2 * k else 0) = 0
      rw [if_neg (by omega), if_pos (List.any_eq_true.2 ⟨r, hr, by simpa using hgb⟩)]
    · exact (h5 r hr).keep hO (fun i hi e => by have := (h5 r hr).2 i e; rw [hs i hi] at this; omega) (fun i hi _ => old i hi)
  · exact h6.trans (hO.below h6.size (fun i hi e => by have := (hlt i e).1; omega))
  · rcases Nat.lt_or_ge i w.heap.size with g | g
    · rw [old i g] at hi; exact h7 i hi
    · exact Nat.le_trans h6.size g
/-- A call of the document's line. -/
theorem Wk.doc (hg : GlA W a a0 a1) (h : Wk W w B vv ps qs xs k P Q x y gl gm il im L) :
    ∃ o1 vf vp vb, RefV w Q y o1 vf vp vb ∧ ∀ (w1 : World) (y' : Ln), RefTo w o1 Q y' w1 → Wk W w1 B vv ps qs xs k P Q x y' gl gm il im L := by
  obtain ⟨o, vs, hvv, h1, hm, h2, h3, ⟨q, vf, vp, vb, hV, hF⟩, h5, h6, h7⟩ := h
  refine ⟨q, vf, vp, vb, hV, fun w1 y' ⟨q', vf', vp', vb', hV', hO, hq⟩ => ?_⟩
  have hs : ∀ i, q i ≠ 0 → o i = 10 + 2 * k := hF
  have old : ∀ i, i < w.heap.size → o.give w.heap.size w1.heap.size (10 + 2 * k) i = o i := fun i hi => give_old hi
  refine ⟨o.give w.heap.size w1.heap.size (10 + 2 * k), vs, hvv, h1.keep hO (fun i hi => by rw [hs i hi]; omega) (fun i hi _ _ => old i hi) (give_free h1.fr hO.size), hm.keep hO (fun i hi => by rw [hs i hi]; omega) (fun i hi e => (old i hi).trans e), h2.keep hg hO (fun i hi j hj => by rw [hs i hi]; exact ⟨by omega, fun e => hj (by omega)⟩) (fun i hi _ _ _ => old i hi), h3.keep hg hO (fun i hi => by rw [hs i hi]; omega) (fun i hi e => (old i hi).trans e), ⟨q', vf', vp', vb', hV', fun i hi => ?_⟩, fun r hr => (h5 r hr).keep hO (fun i hi e => by have := (h5 r hr).2 i e; rw [hs i hi] at this; omega) (fun i hi _ => old i hi), ?_, fun i hi => ?_⟩
  · rcases Nat.lt_or_ge i w.heap.size with g | g
    · rw [old i g]; rw [hq i g] at hi; exact hF i hi
    · exact give_new g (hV'.lt hi)
  · exact h6.trans (hO.below h6.size (fun i hi e => by have := h7 i (by rw [hs i e]; omega); omega))
  · rcases Nat.lt_or_ge i w.heap.size with g | g
    · rw [old i g] at hi; exact h7 i hi
    · exact Nat.le_trans h6.size g
end
end Go.Proofs.YtcnmajndackohaaGreatDoor
/-
  The law's world behind some steps; one of its lines taken out and put back; a list that came out gets its marks.
-/
namespace Go.Proofs.YtcnmajndackohaaGreatDoor
open Go.RowKit
/-- How many there are, behind n steps. -/
structure WF (n m : Nat) (ps qs : List Nat) (xs : List Ln) (gl : List Value) (gm : List Int) (il : List Value) (im : List Int) : Prop where
  p : ps.length = m
  q : qs.length = m
  x : xs.length = m
  m : m ≤ n + 2
  st : ∀ x ∈ xs, Stn x n
  g : gl.length = gm.length
  g4 : gl.length ≤ 4 * n
  i : il.length = im.length
  i8 : il.length ≤ 8 * n
/-- The law's world behind n steps, with m lines. -/
def WI (W w : World) (B n m : Nat) : Prop :=
  ∃ (ps qs : List Nat) (xs : List Ln) (gl : List Value) (gm : List Int) (il : List Value) (im : List Int) (o : Whose) (vs : Nat → Value),
    WF n m ps qs xs gl gm il im ∧ WdC w B o vs (lsW ps qs gl gm il im) ∧ Mks w o gl gm il im ∧ Lns W w o ps qs xs (fun _ => True) ∧ Below W.heap.size W w ∧ ∀ i, o i ≠ 0 → W.heap.size ≤ i
section
variable {W w w1 : World} {B n m : Nat} {vv : Value × Value} {ps qs : List Nat} {xs : List Ln} {k P Q : Nat} {x y : Ln} {gl : List Value} {gm : List Int} {il : List Value} {im : List Int} {L : List Lse} {a : Nat → Addr} {a0 a1 : Addr}
theorem WF.mono {n' : Nat} (h : WF n m ps qs xs gl gm il im) (hn : n ≤ n') : WF n' m ps qs xs gl gm il im := ⟨h.p, h.q, h.x, by have := h.m; omega, fun x hx => (h.st x hx).mono hn, h.g, by have := h.g4; omega, h.i, by have := h.i8; omega⟩
theorem WI.mono {n' : Nat} (h : WI W w B n m) (hn : n ≤ n') : WI W w B n' m := by
  obtain ⟨ps, qs, xs, gl, gm, il, im, o, vs, hF, r⟩ := h
  exact ⟨ps, qs, xs, gl, gm, il, im, o, vs, hF.mono hn, r⟩
theorem WI.below (hg : GlA W a a0 a1) (h : WI W w B n m) (hb : Below w.heap.size w w1) : WI W w1 B n m := by
  obtain ⟨ps, qs, xs, gl, gm, il, im, o, vs, hF, h1, hm, h2, h6, h7⟩ := h
  have hO : Only (fun _ => False) w w1 := Only.of_below hb
  have hf : o.free w1 := fun i hi => h1.fr i (Nat.le_trans hb.size hi)
  exact ⟨ps, qs, xs, gl, gm, il, im, o, vs, hF, h1.keep hO (fun _ k => k.elim) (fun _ _ _ _ => rfl) hf, hm.keep hO (fun _ k => k.elim) (fun _ _ e => e), h2.keep hg hO (fun _ k => k.elim) (fun _ _ _ _ _ => rfl), h6.trans (hb.mono h6.size), h7⟩
theorem WI.bel (h : WI W w B n m) : Below W.heap.size W w := by
  obtain ⟨ps, qs, xs, gl, gm, il, im, o, vs, hF, h1, hm, h2, h6, h7⟩ := h
  exact h6
/-- Line k is taken out. -/
theorem WI.take (h : WI W w B n m) (hk : k < m) : ∃ (vv : Value × Value) (ps qs : List Nat) (xs : List Ln) (gl : List Value) (gm : List Int) (il : List Value) (im : List Int) (P Q : Nat) (x : Ln), WF n m ps qs xs gl gm il im ∧ ps[k]? = some P ∧ qs[k]? = some Q ∧ xs[k]? = some x ∧ Wk W w B vv ps qs xs k P Q x x gl gm il im [] := by
  obtain ⟨ps, qs, xs, gl, gm, il, im, o, vs, hF, h1, hm, h2, h6, h7⟩ := h
  have e1 : ps[k]? = some (ps[k]'(by rw [hF.p]; exact hk)) := List.getElem?_eq_getElem _
  have e2 : qs[k]? = some (qs[k]'(by rw [hF.q]; exact hk)) := List.getElem?_eq_getElem _
  have e3 : xs[k]? = some (xs[k]'(by rw [hF.x]; exact hk)) := List.getElem?_eq_getElem _
  obtain ⟨hp, hq⟩ := h2 k _ _ _ e1 e2 e3 trivial
  exact ⟨(vs 0, vs 1), ps, qs, xs, gl, gm, il, im, _, _, _, hF, e1, e2, e3, o, vs, ⟨rfl, rfl⟩, h1, hm, fun i P Q x g1 g2 g3 _ => h2 i P Q x g1 g2 g3 trivial, hp, hq, (fun r hr => by cases hr), h6, h7⟩
/-- And put back. -/
theorem Wk.back {gl' : List Value} {gm' : List Int} {il' : List Value} {im' : List Int} (h : Wk W w B vv ps qs xs k P Q x x gl' gm' il' im' L) (hF : WF n m ps qs xs gl gm il im) (h1 : ps[k]? = some P) (h2 : qs[k]? = some Q) (hk : k < m) (hx : Stn x (n + 1)) (e1 : gl'.length = gm'.length) (e2 : gl'.length ≤ gl.length + 4) (e3 : il'.length = im'.length) (e4 : il'.length ≤ il.length + 8) : WI W w B (n + 1) m := by
  obtain ⟨o, vs, -, k1, km, k2, k3, k4, k5, k6, k7⟩ := h
  refine ⟨ps, qs, xs.set k x, gl', gm', il', im', o, vs, ⟨hF.p, hF.q, by rw [List.length_set]; exact hF.x, by have := hF.m; omega, fun z hz => ?_, e1, by have := hF.g4; omega, e3, by have := hF.i8; omega⟩, k1, km, fun i P' Q' z g1 g2 g3 _ => ?_, k6, k7⟩
  · rcases List.mem_or_eq_of_mem_set hz with g | g
    · exact (hF.st z g).mono (Nat.le_succ _)
    · rw [g]; exact hx
  · by_cases c : i = k
    · subst c
      rw [h1] at g1; rw [h2] at g2
      rw [List.getElem?_set_self (by rw [hF.x]; exact hk)] at g3
      rw [← Option.some.inj g1, ← Option.some.inj g2, ← Option.some.inj g3]
      exact ⟨k3, k4⟩
    · rw [List.getElem?_set_ne (fun e => c e.symm)] at g3
      exact k2 i P' Q' z g1 g2 g3 c
/-- What a call leaves that marks a list. -/
theorem Wk.mark {r : Lse} (hg : GlA W a a0 a1) (h : Wk W w B vv ps qs xs k P Q x y gl gm il im (r :: L)) (hL : ∀ r' ∈ L, ∀ g, r.v.ownBlock = some g → r'.v.ownBlock ≠ some g) :
    ∃ o vs, WdC w B o vs (lsW ps qs gl gm il im) ∧ Mks w o gl gm il im ∧ r.at W w o ∧ ∀ (w' : World) (o' : Whose) (vs' : Nat → Value) (gl' : List Value) (gm' : List Int) (il' : List Value) (im' : List Int), WdC w' B o' vs' (lsW ps qs gl' gm' il' im') → Mks w' o' gl' gm' il' im' → Only (fun i => own8 (o i) ∨ r.v.ownBlock = some i) w w' → (∀ i, i < w.heap.size → r.v.ownBlock ≠ some i → o' i = o i) → (vs' 0 = vs 0 ∧ vs' 1 = vs 1) → Wk W w' B vv ps qs xs k P Q x y gl' gm' il' im' L := by
  obtain ⟨o, vs, hvv, h1, hm, h2, h3, h4, h5, h6, h7⟩ := h
  have hr := h5 r (List.mem_cons_self ..)
  refine ⟨o, vs, h1, hm, hr, fun w' o' vs' gl' gm' il' im' c1 c2 hO hk hv' => ?_⟩
  have far : ∀ c, 9 ≤ c → ∀ i, own8 (o i) ∨ r.v.ownBlock = some i → o i ≠ c := fun c hc i hi e => by
    rcases hi with g | g
    · have := g.2; omega
    · have := hr.2 i g; omega
  have old : ∀ c, 9 ≤ c → ∀ i, i < w.heap.size → o i = c → o' i = c := fun c hc i hi e => (hk i hi (fun g => by have := hr.2 i g; omega)).trans e
  refine ⟨o', vs', ⟨hv'.1.trans hvv.1, hv'.2.trans hvv.2⟩, c1, c2, h2.keep hg hO (fun i hi j _ => ⟨far _ (by omega) i hi, far _ (by omega) i hi⟩) (fun i hi j _ e => ?_), h3.keep hg hO (far _ (by omega)) (old _ (by omega)), h4.keep hO (far _ (by omega)) (old _ (by omega)), fun r' hr' => ?_, h6.trans (hO.below h6.size (fun i hi e => ?_)), fun i hi => ?_⟩
  · rcases e with e | e
    · rw [e]; exact old _ (by omega) i hi e
    · rw [e]; exact old _ (by omega) i hi e
  · have hr2 := h5 r' (List.mem_cons_of_mem _ hr')
    refine hr2.keep hO (fun i hi e => ?_) (fun i hi e => hk i hi (fun g => hL r' hr' i g e))
    rcases hi with g | g
    · have h0 := hr2.2 i e; rw [h0] at g; exact absurd g.1 (by decide)
    · exact hL r' hr' i g e
  · rcases e with g | g
    · have := h7 i (by have := g.1; omega); omega
    · have := (ownsRow_lt hr.1 i g).1; omega
  · rcases Nat.lt_or_ge i w.heap.size with g | g
    · by_cases c : r.v.ownBlock = some i
      · exact (ownsRow_lt hr.1 i c).1
      · rw [hk i g c] at hi; exact h7 i hi
    · exact Nat.le_trans h6.size g
end
end Go.Proofs.YtcnmajndackohaaGreatDoor
/-
  The law's world while a line is called: the lists that have come out.
-/
namespace Go.Proofs.YtcnmajndackohaaGreatDoor
open Go.RowKit
section
variable {W w : World} {B : Nat} {vv : Value × Value} {ps qs : List Nat} {xs : List Ln} {k P Q : Nat} {x y : Ln} {gl : List Value} {gm : List Int} {il : List Value} {im : List Int} {L L' : List Lse} {a : Nat → Addr} {a0 a1 : Addr}
theorem Wk.sub (h : Wk W w B vv ps qs xs k P Q x y gl gm il im L) (hL : ∀ r ∈ L', r ∈ L) : Wk W w B vv ps qs xs k P Q x y gl gm il im L' := by
  obtain ⟨o, vs, hvv, h1, hm, h2, h3, h4, h5, h6, h7⟩ := h
  exact ⟨o, vs, hvv, h1, hm, h2, h3, h4, fun r hr => h5 r (hL r hr), h6, h7⟩
theorem Wk.row {r : Lse} (h : Wk W w B vv ps qs xs k P Q x y gl gm il im L) (hr : r ∈ L) : w.ownsRow W.heap.size r.t r.size r.v r.n r.cs := by
  obtain ⟨o, vs, hvv, h1, hm, h2, h3, h4, h5, h6, h7⟩ := h
  exact (h5 r hr).1
theorem Wk.bel (h : Wk W w B vv ps qs xs k P Q x y gl gm il im L) : Below W.heap.size W w := by
  obtain ⟨o, vs, hvv, h1, hm, h2, h3, h4, h5, h6, h7⟩ := h
  exact h6
/-- A new block of one element. -/
def one (t : TypeId) (b : Nat) (cs : Array Value) : Lse := ⟨t, cs.size, .slice (some ⟨b, 0, none⟩) 1 1, 1, cs.toList⟩
theorem Wk.hold (hg : GlA W a a0 a1) (h : Wk W w B vv ps qs xs k P Q x y gl gm il im L) (t : TypeId) (cs : Array Value) : Wk W (w.alloc (.cells cs t)) B vv ps qs xs k P Q x y gl gm il im (one t w.heap.size cs :: L) := by
  have hb := bel_one (w := w) (.cells cs t)
  have h' := h.below hg hb
  have hs := h.bel.size
  obtain ⟨o, vs, hvv, h1, hm, h2, h3, h4, h5, h6, h7⟩ := h
  have hO : Only (fun _ => False) w (w.alloc (.cells cs t)) := Only.of_below hb
  have hf : o.free (w.alloc (.cells cs t)) := fun i hi => h1.fr i (Nat.le_trans hb.size hi)
  refine ⟨o, vs, hvv, h1.keep hO (fun _ k => k.elim) (fun _ _ _ _ => rfl) hf, hm.keep hO (fun _ k => k.elim) (fun _ _ e => e), h2.keep hg hO (fun _ k => k.elim) (fun _ _ _ _ _ => rfl), h3.keep hg hO (fun _ k => k.elim) (fun _ _ e => e), h4.keep hO (fun _ k => k.elim) (fun _ _ e => e), fun r hr => ?_, h6.trans (hb.mono h6.size), h7⟩
  rcases List.mem_cons.1 hr with e | hr
  · subst e
    refine ⟨⟨by show cs.toList.length = 1 * cs.size; rw [Nat.one_mul]; rfl, .inr ⟨w.heap.size, 1, cs, rfl, hs, heap_alloc_new w _, Nat.le_refl _, by unfold maxLen; decide, by rw [Nat.one_mul]; rfl, by show cs.toList.take (1 * cs.size) = cs.toList; rw [Nat.one_mul]; exact List.take_of_length_le (Nat.le_refl _)⟩⟩, fun g hgb => ?_⟩
    have e : w.heap.size = g := Option.some.inj hgb
    rw [← e]
    exact h1.fr _ (Nat.le_refl _)
  · exact (h5 r hr).keep hO (fun _ k => k.elim) (fun _ _ _ => rfl)
end
set_option maxRecDepth 100000 in
set_option maxHeartbeats 4000000 in
theorem same_any (w : World) (b1 b2 : Nat) (va vb : Value) (z : List Int) (h1 : w.ownsRow b1 3 1 va z.length (icells z)) (h2 : w.ownsRow b2 3 1 vb z.length (icells z)) :
    Calls Tryz.prog 109 #[va, vb] w fun e w' => e = .returned (.bool true) ∧ Below w.heap.size w w' := by
  obtain ⟨aa, ca, rfl⟩ := row_lenW h1
  obtain ⟨ab, cb, rfl⟩ := row_lenW h2
  have H1 := hide h1
  have H2 := hide h2
  obtain ⟨n, hn⟩ : ∃ n, z.length = n := ⟨_, rfl⟩
  have HN := hide hn
  have hm := own_max h1
  rw [hn] at hm H1 H2 ⊢
  unfold maxLen at hm
  clear h1 h2 hn
  go_enter Tryz.func109, Tryz.ntmps109
  go_wp2_with fail
  go_loopw [5] (fun i wr => ∃ k : Nat, k ≤ n ∧ i = .int .i64 k ∧ Below w.heap.size w wr) (fun i _ => n - (intOf i).toNat)
  case atStart => exact ⟨0, Nat.zero_le _, rfl, Below.refl _ _⟩
  case round =>
    obtain ⟨k, hk, rfl, hbel⟩ := hrel
    have HB := hide hbel
    by_cases hlt : k < n
    · have hki : (k : Int) < (n : Int) := by omega
      have hkz : k < z.length := by rw [unhide HN]; exact hlt
      have hu : (icells z)[k]? = some (.int .i64 z[k]) := by unfold icells; rw [List.getElem?_map, List.getElem?_eq_getElem hkz]; rfl
      obtain ⟨ga, ca', e1, _, hga⟩ := World.ownsRow.form (unhide H1) (by omega)
      obtain ⟨gb, cb', e2, _, hgb⟩ := World.ownsRow.form (unhide H2) (by omega)
      simp only [Value.slice.injEq] at e1 e2
      obtain ⟨rfl, -, rfl⟩ := e1
      obtain ⟨rfl, -, rfl⟩ := e2
      have q1 := (hbel.cell (p := ⟨ga, k, none⟩) hga).trans (own_cell (unhide H1) hu)
      have q2 := (hbel.cell (p := ⟨gb, k, none⟩) hgb).trans (own_cell (unhide H2) hu)
      clear hbel
      generalize z[k] = y at *
      clear hu hkz
      go_wp2_with fail
      go_quiet (fail)
      go_wp2_with fail
      go_roundw
      case rel => exact ⟨k + 1, by omega, by go_num, below_drewN (unhide HB) _⟩
      case measure => simp [intOf]; omega
    · clear hbel
      go_wp2_with fail
      go_ret
      exact ⟨rfl, unhide HB⟩
end Go.Proofs.YtcnmajndackohaaGreatDoor
/-
  What the law's gone does: the program's Gone tells what the document's tells.
-/
namespace Go.Proofs.YtcnmajndackohaaGreatDoor
open Go.RowKit
attribute [local go_sem ↓] Go.wp_at_zero Go.wp_at_succ
set_option maxRecDepth 100000 in
set_option maxHeartbeats 4000000 in
theorem lgone_any {W w : World} {B : Nat} {vv : Value × Value} {L0 : List Lse} {ps qs : List Nat} {xs : List Ln} {k P Q n : Nat} {x : Ln} {gl : List Value} {gm : List Int} {il : List Value} {im : List Int} {a : Nat → Addr} {a0 a1 : Addr} (hg : GlA W a a0 a1) (h : Wk W w B vv ps qs xs k P Q x x gl gm il im L0) (hs : Stn x n) (hn : n ≤ 1100000) (hlg : gl.length = gm.length) (hli : il.length = im.length) (hg9 : gl.length ≤ 1000000000) :
    Calls Tryz.prog 80 #[.pointer (some ⟨B, 0, none⟩), .pointer (some ⟨P, 0, none⟩), .pointer (some ⟨Q, 0, none⟩)] w fun e w' => e = .returned (.bool true) ∧ ∃ gl' gm', Wk W w' B vv ps qs xs k P Q x.gone.2 x.gone.2 gl' gm' il im L0 ∧ gl'.length = gl.length + 4 ∧ gm'.length = gl.length + 4 := by
  have hbel := h.bel
  have HOl := hide (fun (r' : Lse) (hr' : r' ∈ L0) (g : Nat) (hg' : r'.v.ownBlock = some g) => (ownsRow_lt (h.row hr') g hg').2)
  obtain ⟨F, hR, hnx⟩ := h.prog hg
  have HP := hide ((lineL hg).gone w P x F n hbel hR hs.sml (by omega))
  have HNx := hide hnx
  have HG := hide hg
  have HL := hide (hs.lbd (by omega))
  have HBg := hide (show x.began.length ≤ 100000000 from by have := hs.bg; omega)
  have HT := hide (show x.gone.1.length ≤ 1000000000 from by have := hs.told; omega)
  have HLg := hide hlg
  have HLi := hide hli
  have HG9 := hide hg9
  clear hbel hR hnx hs hn hlg hli hg9 h hg
  go_enter Tryz.func80, Tryz.ntmps80
  go_wp2_with fail
  refine (unhide HP).mono ?_
  rintro e w1 ⟨v, F', rfl, hrow, hR', hO, hF', hap⟩
  have hW1 := unhide HNx w1 x.gone.2 F' [⟨63, 6, v, x.gone.1.length, gcells x.gone.1⟩] hR' hO hF' (fun r hr => by rw [List.mem_singleton.1 hr]; exact ⟨hrow, hap⟩)
  have HGe := hide (fun (g : Nat) (hg' : v.ownBlock = some g) => (ownsRow_lt hrow g hg').1)
  obtain ⟨av, cv, rfl⟩ := row_lenW hrow
  obtain ⟨o1, vf, vp, vb, hV, hnx2⟩ := hW1.doc (unhide HG)
  have HD := hide (rgone_any w1 Q x o1 vf vp vb hV (unhide HL) (unhide HBg))
  have HNx2 := hide hnx2
  clear HP HNx hrow hR' hO hF' hap hW1 hV hnx2
  go_wp2_with fail
  refine (unhide HD).mono ?_
  rintro e w2 ⟨v2, rfl, hrow2, hto⟩
  have hW2 := unhide HNx2 w2 x.gone.2 hto
  obtain ⟨a2, c2, rfl⟩ := row_lenW hrow2
  have hRa := hW2.row (List.mem_cons_self ..)
  have HW2 := hide hW2
  obtain ⟨N, hN⟩ : ∃ N, x.gone.1.length = N := ⟨_, rfl⟩
  have hN9 : N ≤ 1000000000 := by rw [← hN]; exact unhide HT
  have HN := hide hN
  rw [hN]
  have HRa := hide (show w2.ownsRow W.heap.size 63 6 (.slice av N cv) N (gcells x.gone.1) from by rw [← hN]; exact hRa)
  have HRb := hide (show w2.ownsRow w1.heap.size 63 6 (.slice a2 N c2) N (gcells x.gone.1) from by rw [← hN]; exact hrow2)
  clear HD HNx2 hrow2 hto hW2 hN hRa
  go_wp2_with fail
  go_loopw [9, 10] (fun q i wr => ∃ j : Nat, j ≤ N ∧ i = .int .i64 j ∧ q = .bool true ∧ Below w2.heap.size w2 wr) (fun _ i _ => N - (intOf i).toNat)
  case atStart => exact ⟨0, Nat.zero_le _, rfl, rfl, Below.refl _ _⟩
  case round =>
    obtain ⟨j, hj, rfl, rfl, hbel⟩ := hrel
    have HB := hide hbel
    by_cases hlt : j < N
    · have hji : (j : Int) < (N : Int) := by omega
      have hjl : j < x.gone.1.length := by rw [unhide HN]; exact hlt
      obtain ⟨ga, ca', e1, _, hga⟩ := World.ownsRow.form (unhide HRa) (by omega)
      obtain ⟨gb, cb', e2, _, hgb⟩ := World.ownsRow.form (unhide HRb) (by omega)
      simp only [Value.slice.injEq] at e1 e2
      obtain ⟨rfl, -, rfl⟩ := e1
      obtain ⟨rfl, -, rfl⟩ := e2
      obtain ⟨t0, t1, t2, t3, t4, t5⟩ := gnc_at x.gone.1 j hjl
      have q0 := (hbel.cell (p := ⟨ga, j * 6, none⟩) hga).trans (own_cell (unhide HRa) t0)
      have q1 := (hbel.cell (p := ⟨ga, j * 6 + 1, none⟩) hga).trans (own_cell (unhide HRa) t1)
      have q2 := (hbel.cell (p := ⟨ga, j * 6 + 2, none⟩) hga).trans (own_cell (unhide HRa) t2)
      have q3 := (hbel.cell (p := ⟨ga, j * 6 + 3, none⟩) hga).trans (own_cell (unhide HRa) t3)
      have q4 := (hbel.cell (p := ⟨ga, j * 6 + 4, none⟩) hga).trans (own_cell (unhide HRa) t4)
      have q5 := (hbel.cell (p := ⟨ga, j * 6 + 5, none⟩) hga).trans (own_cell (unhide HRa) t5)
      have r0 := (hbel.cell (p := ⟨gb, j * 6, none⟩) hgb).trans (own_cell (unhide HRb) t0)
      have r1 := (hbel.cell (p := ⟨gb, j * 6 + 1, none⟩) hgb).trans (own_cell (unhide HRb) t1)
      have r2 := (hbel.cell (p := ⟨gb, j * 6 + 2, none⟩) hgb).trans (own_cell (unhide HRb) t2)
      have r3 := (hbel.cell (p := ⟨gb, j * 6 + 3, none⟩) hgb).trans (own_cell (unhide HRb) t3)
      have r4 := (hbel.cell (p := ⟨gb, j * 6 + 4, none⟩) hgb).trans (own_cell (unhide HRb) t4)
      have r5 := (hbel.cell (p := ⟨gb, j * 6 + 5, none⟩) hgb).trans (own_cell (unhide HRb) t5)
      clear hbel
      generalize x.gone.1[j] = p at *
      clear t0 t1 t2 t3 t4 t5 hjl
      generalize p.start + p.size = dn at *
      go_wp2_with fail
      go_quiet (fail)
      go_wp2_with fail
      go_roundw
      case rel => exact ⟨j + 1, by omega, by go_num, rfl, below_drewN (unhide HB) _⟩
      case measure => simp [intOf]; omega
    · have HW3 := hide ((unhide HW2).below (unhide HG) hbel)
      obtain ⟨o2, vs2, hc, hk, hat, hfin⟩ := (unhide HW3).mark (unhide HG) (fun r' hr' g hg' e => by have h1 := unhide HOl r' hr' g e; have h2 := unhide HGe g hg'; omega)
      have HK := hide (keep_any wr B o2 vs2 ps qs gl gm il im _ x.gone.1 hc hk (row_base hat.1 (Nat.zero_le _)) hat.2 (unhide HLg) (unhide HLi) (unhide HT) (unhide HG9))
      have HFin := hide hfin
      rw [unhide HN] at HK HFin
      clear hc hk hat hfin hbel
      go_wp2_with fail
      refine (unhide HK).mono ?_
      rintro e w4 ⟨rfl, o', vs', gl', gm', k1, k2, k3, k4, k5, k6, k7⟩
      have HF := hide (unhide HFin w4 o' vs' gl' gm' il im k1 k2 k5 k6 k7)
      have HL3 := hide k3
      have HL4 := hide k4
      clear k1 k2 k3 k4 k5 k6 k7 HK HFin
      go_wp2_with fail
      go_ret
      exact ⟨rfl, gl', gm', unhide HF, unhide HL3, unhide HL4⟩
end Go.Proofs.YtcnmajndackohaaGreatDoor
