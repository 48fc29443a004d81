import Derived.Test.YtcnmajndackohaaGreatDoorMg34
import Derived.Shelf.Small.Bits
import Derived.Shelf.Small.Wraps
import Derived.Shelf.Strconv.Itoa0
import Derived.Shelf.Strconv.Itoa1
import Derived.Shelf.LaysM
import Derived.Shelf.Strconv.Itoa2
import Derived.Shelf.Strconv.Itoa3
import Derived.Shelf.Sort.Plain
import Derived.Ground.Names2Prog
import Derived.Shelf.Slices.SearchI
import Derived.Shelf.Slices.In.SortNone
import Derived.Test.YtcnmajndackohaaGreatDoorProg
import Derived.Test.YtcnmajndackohaaGreatDoorMg29
/-
  The program's line keeps to the document's.
-/
namespace Go.Proofs.YtcnmajndackohaaGreatDoor
open Go.RowKit

section
variable {W w : World} {P : Nat} {x : Ln} {F : Nat → Prop} {n : Nat} {a : Nat → Addr} {a0 a1 : Addr}
/-- Nothing is changed. -/
def Sty (W w : World) (P : Nat) (x : Ln) (F : Nat → Prop) (w' : World) : Prop := ∃ F', LinR W w' P x F' ∧ Only F w w' ∧ ∀ i, F' i → F i ∨ w.heap.size ≤ i
theorem sty_of (h : LinR W w P x F) {w' : World} (hb : Below w.heap.size w w') : Sty W w P x F w' := ⟨F, h.stay hb, Only.of_below hb, fun _ g => .inl g⟩
theorem live_none {s : PS} {rel : Int → Int} (hs : Sim x s rel) (k : Int) (h : x.at? k = none ∨ ∃ st, x.at? k = some st ∧ st.is ≠ 0) : NoLive s k := by
  rcases Int.lt_or_le k 0 with g | g
  · exact .inl (by unfold mAt; rw [if_neg (by omega)])
  · obtain ⟨j, rfl⟩ := Int.eq_ofNat_of_zero_le g
    have hat : x.at? (j : Int) = x.fl[j]? := by unfold Ln.at?; rw [if_pos (by omega), Int.toNat_natCast]
    rw [hat] at h
    cases hf : s.fs j with
    | none => exact .inl (by unfold mAt; rw [if_pos (by omega), Int.toNat_natCast]; unfold adrs; rw [hf]; rfl)
    | some f =>
      obtain ⟨st, e1, _, e3, _⟩ := hs.val j f hf
      rcases h with h | ⟨st', h, hi⟩
      · rw [h] at e1; cases e1
      · rw [h] at e1
        cases e1
        obtain ⟨st2, e4, e5⟩ := (hs.dom j).1 ⟨f, hf⟩
        rw [h] at e4
        cases e4
        refine .inr ⟨j, f, rfl, hf, ?_⟩
        rw [e3]
        have := hs.is _ (List.mem_of_getElem? h)
        simp; omega
theorem line_below (hb : Below W.heap.size W w) {w' : World} (hW : ∀ i, F i → W.heap.size ≤ i) (ho : Only F w w') : Below W.heap.size W w' :=
  ⟨ho.os.trans hb.os, ho.tape.trans hb.tape, ho.output.trans hb.output, Nat.le_trans hb.size ho.size, fun k hk => (ho.block k (Nat.lt_of_lt_of_le hk hb.size) (fun c => by have := hW k c; omega)).trans (hb.block k hk)⟩
theorem lin_send (hgW : GlA W a a0 a1) (hbW : Below W.heap.size W w) (h : LinR W w P x F) (hm : Sml x n) (hn : n ≤ 2000000) (k z : Int) (k0 : -9223372036854775808 ≤ k) (k1 : k ≤ 9223372036854775807) (z0 : -9223372036854775808 ≤ z) (z1 : z ≤ 9223372036854775807) :
    Calls Tryz.prog 24 #[.pointer (some ⟨P, 0, none⟩), .int .i64 k, .int .i64 z] w fun e w' => e = .returned (.int .i64 (x.send k z).1) ∧ Sty W w P (x.send k z).2 F w' := by
  have hR := h
  have hg := hgW.below hbW
  have hb := hbW.size
  obtain ⟨s, rel, hp, hs, h6, ho, hi, hF, hW⟩ := h
  have c0 := hi.cell (j := 0) rfl
  have hl := lbn_of hm hn h6
  have bad : ∀ (b : Addr) (c : Int), Calls Tryz.prog 44 #[.pointer (some ⟨s.Q, 0, none⟩), .int .i64 k, .int .i64 z] w (fun e w' => (∃ l, e = .returned (chn l b)) ∧ Below w.heap.size w w') →
      (∀ l W, Snt W a → Calls Tryz.prog 28 #[chn l b] W fun e w' => e = .returned (.int .i64 c) ∧ Below W.heap.size W w') →
      Calls Tryz.prog 24 #[.pointer (some ⟨P, 0, none⟩), .int .i64 k, .int .i64 z] w fun e w' => e = .returned (.int .i64 c) ∧ Sty W w P x F w' := fun b c h1 h2 => by
    refine wsend (A := fun E w' => ∃ l, E = chn l b ∧ Below w.heap.size w w') k z c0 (h1.mono ?_) ?_
    · rintro e w' ⟨⟨l, rfl⟩, hb1⟩; exact ⟨_, rfl, l, rfl, hb1⟩
    · rintro E w1 ⟨l, rfl, hb1⟩
      refine (h2 l w1 (hg.s.below hb1)).mono ?_
      rintro e w2 ⟨rfl, hb2⟩
      exact ⟨rfl, sty_of hR (bel_then hb1 hb2)⟩
  by_cases h4 : x.at? k = none ∨ ∃ st, x.at? k = some st ∧ st.is ≠ 0
  · have e : x.send k z = (4, x) := by
      unfold Ln.send
      rcases h4 with h4 | ⟨st, h4, h5⟩
      · rw [h4]
      · rw [h4]; simp only; rw [if_pos h5]
    rw [e]
    exact bad _ 4 (psend_none w P s hp k z k0 k1 (live_none hs k h4) a a0 a1 hg) (fun l W hS => errno_ErrNone l a W hS)
  · have g := Int.lt_or_le k 0
    have kz : 0 ≤ k := by
      rcases g with g | g
      · exact absurd (.inl (by unfold Ln.at?; rw [if_neg (by omega)])) h4
      · exact g
    obtain ⟨j, rfl⟩ := Int.eq_ofNat_of_zero_le kz
    have hat : x.at? (j : Int) = x.fl[j]? := by unfold Ln.at?; rw [if_pos (by omega), Int.toNat_natCast]
    cases hst : x.fl[j]? with
    | none => exact absurd (.inl (hat.trans hst)) h4
    | some st =>
      have h0 : st.is = 0 := Classical.byContradiction fun c => h4 (.inr ⟨st, hat.trans hst, c⟩)
      obtain ⟨f, hf⟩ := (hs.dom j).2 ⟨st, hst, by omega⟩
      obtain ⟨st', e1, e2, e3, e4, e5, e6, e7⟩ := hs.val j f hf
      rw [hst] at e1
      cases e1
      have ht : f.torn = false := by rw [e3, h0]; rfl
      have es : x.send (j : Int) z = if z < 1 ∨ st.f.s < z then (5, x) else if 40 ≤ x.waiting (j : Int) then (6, x) else (0, x.push j z (x.readyAt st.f j z)) := by
        unfold Ln.send
        rw [hat, hst]
        simp only
        rw [if_neg (by omega)]
      have hwl := hs.wait_le (j : Int)
      have hpk := hl.pk
      by_cases h5 : z < 1 ∨ st.f.s < z
      · rw [es, if_pos h5]
        exact bad _ 5 (psend_bad w P s hp j z k1 f hf ht a a0 a1 _ hg fun V hV => accept_size z f.f.s f.wa V a a0 a1 hV z0 z1 (by rw [e2]; exact h5)) (fun l W hS => errno_ErrSize l a W hS)
      · by_cases h7 : 40 ≤ x.waiting (j : Int)
        · rw [es, if_neg h5, if_pos h7]
          exact bad _ 6 (psend_bad w P s hp j z k1 f hf ht a a0 a1 _ hg fun V hV => accept_quota z f.f.s f.wa V a a0 a1 hV (by omega) (by rw [e2]; omega) (by rw [e5]; omega) (by rw [e5]; omega)) (fun l W hS => errno_ErrQuota l a W hS)
        · have hmay := hs.inv.may st (List.mem_of_getElem? hst)
          have hod : ∃ B, Od (x.push j z (x.readyAt f.f j z)) B := by
            obtain ⟨B, hB⟩ := hs.od
            have := od_send hB (j : Int) z
            rw [es, if_neg h5, if_neg h7, ← e2] at this
            exact ⟨B, this⟩
          obtain ⟨p1, p2, p3⟩ := hs.pass hl hf (size := z) (by omega) (by rw [e2]; omega)
          have hLl : f.L.length ≤ x.pk.length := by rw [e6]; exact List.length_filter_le _ _
          have hsq : x.seqOf (j : Int) ≤ x.pk.length := by unfold Ln.seqOf; have := List.countP_le_length (p := fun p : Pk => decide (p.flow = (j : Int))) (l := x.pk); omega
          have hsq0 : (0 : Int) ≤ (x.seqOf (j : Int) : Int) := by omega
          have hsn := hs.now
          have hxn := hl.now
          have hx0 := hs.inv.n0
          have hc := psend_ok w P s hp j z (x.readyAt f.f j z) k1 f hf ht (by omega) (by rw [e2]; omega) (by obtain ⟨_, s1, _⟩ := hmay; omega) (by rw [e5]; omega) (by rw [e5]; omega) p1 (by omega) (by omega) p2 (by rw [e4]; exact hsq0) (by rw [e4]; omega) (by omega)
          rw [es, if_neg h5, if_neg h7, ← e2]
          refine wsend (A := fun E w' => E = .nilIface ∧ ∃ v' o', PTo w P s w' { s with fs := upd s.fs j (f.sent v' s.now z (x.readyAt f.f j z) j), o := o' }) (j : Int) z c0 (hc.mono ?_) ?_
          · rintro e w' ⟨rfl, hT⟩; exact ⟨_, rfl, rfl, hT⟩
          · rintro E w1 ⟨rfl, v', o', hT⟩
            obtain ⟨F', q1, q2, q3⟩ := LinR.to ho hi hF hW hb hT (hs.send hl hf ht (by omega) (by rw [e2]; omega) v' o' hod) (show x.fl.length ≤ 1000000 from h6)
            have hS1 : Sts w1 := hgW.s.sts.below (line_below hbW hW q2)
            refine (errno_none w1 hS1).mono ?_
            rintro e w2 ⟨rfl, rfl⟩
            exact ⟨rfl, F', q1, q2, q3⟩
theorem lin_other (hgW : GlA W a a0 a1) (hbW : Below W.heap.size W w) (h : LinR W w P x F) (hm : Sml x n) (hn : n ≤ 2000000) (z : Int) (z0 : -9223372036854775808 ≤ z) (z1 : z ≤ 9223372036854775807) :
    Calls Tryz.prog 21 #[.pointer (some ⟨P, 0, none⟩), .int .i64 z] w fun e w' => e = .returned (.int .i64 (x.other z).1) ∧ Sty W w P (x.other z).2 F w' := by
  have hR := h
  have hg := hgW.below hbW
  have hb := hbW.size
  obtain ⟨s, rel, hp, hs, h6, ho, hi, hF, hW⟩ := h
  have c0 := hi.cell (j := 0) rfl
  have hl := lbn_of hm hn h6
  have hOl : s.O.length = x.waiting (-1) := by
    rw [hs.O, ← List.countP_eq_length_filter]
    unfold Ln.waiting
    exact List.countP_congr fun p _ => by simp [othB, wt, and_assoc]
  have hwl := hs.wait_le (-1)
  have hpk := hl.pk
  have bad : ∀ (b : Addr) (c : Int), Calls Tryz.prog 40 #[.pointer (some ⟨s.Q, 0, none⟩), .int .i64 z] w (fun e w' => (∃ l, e = .returned (chn l b)) ∧ Below w.heap.size w w') →
      (∀ l W, Snt W a → Calls Tryz.prog 28 #[chn l b] W fun e w' => e = .returned (.int .i64 c) ∧ Below W.heap.size W w') →
      Calls Tryz.prog 21 #[.pointer (some ⟨P, 0, none⟩), .int .i64 z] w fun e w' => e = .returned (.int .i64 c) ∧ Sty W w P x F w' := fun b c h1 h2 => by
    refine wother (A := fun E w' => ∃ l, E = chn l b ∧ Below w.heap.size w w') z c0 (h1.mono ?_) ?_
    · rintro e w' ⟨⟨l, rfl⟩, hb1⟩; exact ⟨_, rfl, l, rfl, hb1⟩
    · rintro E w1 ⟨l, rfl, hb1⟩
      refine (h2 l w1 (hg.s.below hb1)).mono ?_
      rintro e w2 ⟨rfl, hb2⟩
      exact ⟨rfl, sty_of hR (bel_then hb1 hb2)⟩
  by_cases h5 : z < 1 ∨ 8 < z
  · have e : x.other z = (5, x) := by unfold Ln.other; rw [if_pos h5]
    rw [e]
    exact bad _ 5 (pother_bad w P s hp z (by omega) a a0 a1 _ hg fun V hV => accept_size z 8 _ V a a0 a1 hV z0 z1 h5) (fun l W hS => errno_ErrSize l a W hS)
  · by_cases h7 : 40 ≤ x.waiting (-1)
    · have e : x.other z = (6, x) := by unfold Ln.other; rw [if_neg h5, if_pos h7]
      rw [e]
      exact bad _ 6 (pother_bad w P s hp z (by omega) a a0 a1 _ hg fun V hV => accept_quota z 8 _ V a a0 a1 hV (by omega) (by omega) (by omega) (by omega)) (fun l W hS => errno_ErrQuota l a W hS)
    · have e : x.other z = (0, x.push (-1) z x.now) := by unfold Ln.other; rw [if_neg h5, if_neg h7]
      have hod : ∃ B, Od (x.push (-1) z x.now) B := by
        obtain ⟨B, hB⟩ := hs.od
        have := od_other hB z
        rw [e] at this
        exact ⟨B, this⟩
      have hsn := hs.now
      have hx0 := hs.inv.n0
      have hbr := hs.br
      have hsq : x.seqOf (-1) ≤ x.pk.length := by unfold Ln.seqOf; exact List.countP_le_length
      have hc := pother_ok w P s hp z (by omega) (by omega) (by omega) (by omega) (by omega) (by omega)
      rw [e]
      refine wother (A := fun E w' => E = .nilIface ∧ ∃ v' o', PTo w P s w' { s with vo := v', O := s.O ++ [⟨-1, s.br, z, s.now, -1, false, false⟩], br := s.br + 1, o := o' }) z c0 (hc.mono ?_) ?_
      · rintro e w' ⟨rfl, hT⟩; exact ⟨_, rfl, rfl, hT⟩
      · rintro E w1 ⟨rfl, v', o', hT⟩
        obtain ⟨F', q1, q2, q3⟩ := LinR.to ho hi hF hW hb hT (hs.other v' o' hod) (show x.fl.length ≤ 1000000 from h6)
        refine (errno_none w1 (hgW.s.sts.below (line_below hbW hW q2))).mono ?_
        rintro e w2 ⟨rfl, rfl⟩
        exact ⟨rfl, F', q1, q2, q3⟩
theorem gl_arg (h : GlA w a a0 a1) : a 0 = a0 := by
  have h1 := h.s.c 0 (by decide)
  have h2 := h.g.e0
  rw [h1] at h2
  simpa using h2
theorem lin_run (hgW : GlA W a a0 a1) (hbW : Below W.heap.size W w) (h : LinR W w P x F) (hm : Sml x n) (hn : n ≤ 2000000) (t : Int) (t0 : -9223372036854775808 ≤ t) (t1 : t ≤ 9223372036854775807) :
    Calls Tryz.prog 41 #[.pointer (some ⟨P, 0, none⟩), .int .i64 t] w fun e w' => e = .returned (.int .i64 (x.run t).1) ∧ Sty W w P (x.run t).2 F w' := by
  have hR := h
  have hg := hgW.below hbW
  have hb := hbW.size
  obtain ⟨s, rel, hp, hs, h6, ho, hi, hF, hW⟩ := h
  have c0 := hi.cell (j := 0) rfl
  have hl := lbn_of hm hn h6
  by_cases h5 : t < 0 ∨ 200 < t
  · have e : x.run t = (1, x) := by unfold Ln.run; rw [if_pos h5]
    rw [e]
    refine wrun (A := fun E w' => ∃ l, E = chn l (a 0) ∧ Below w.heap.size w w') t c0 ((prun_bad w s.Q t a a0 a1 hg t0 t1 h5).mono ?_) ?_
    · rintro e w' ⟨⟨l, rfl⟩, hb1⟩; exact ⟨_, rfl, l, rfl, hb1⟩
    · rintro E w1 ⟨l, rfl, hb1⟩
      rw [gl_arg hg]
      refine (errno_arg l a0 a1 w1 (hg.below hb1).g.toGl).mono ?_
      rintro e w2 ⟨rfl, hb2⟩
      exact ⟨rfl, sty_of hR (bel_then hb1 hb2)⟩
  · have e : x.run t = (0, x.ticks t.toNat) := by unfold Ln.run; rw [if_neg h5]
    rw [e]
    have hmn := hm.now
    refine wrun (A := fun E w' => E = .nilIface ∧ PSto w P s w' (x.ticks t.toNat)) t c0 ((prun_ok w P x s rel t hp hs hl (by omega) (by omega) (by omega)).mono ?_) ?_
    · rintro e w' ⟨rfl, hT⟩; exact ⟨_, rfl, rfl, hT⟩
    · rintro E w1 ⟨rfl, s', rel', hT, hs'⟩
      obtain ⟨F', q1, q2, q3⟩ := LinR.to ho hi hF hW hb hT hs' (by rw [ticks_fls]; exact h6)
      refine (errno_none w1 (hgW.s.sts.below (line_below hbW hW q2))).mono ?_
      rintro e w2 ⟨rfl, rfl⟩
      exact ⟨rfl, F', q1, q2, q3⟩
theorem lin_gone (hbW : Below W.heap.size W w) (h : LinR W w P x F) (hm : Sml x n) (hn : n ≤ 2000000) :
    Calls Tryz.prog 42 #[.pointer (some ⟨P, 0, none⟩)] w fun e w' => ∃ v F', e = .returned v ∧ w'.ownsRow w.heap.size 63 6 v x.gone.1.length (gcells x.gone.1) ∧ LinR W w' P x.gone.2 F' ∧ Only F w w' ∧ (∀ i, F' i → F i ∨ w.heap.size ≤ i) ∧ ∀ g, v.ownBlock = some g → ¬ F' g := by
  have hb := hbW.size
  obtain ⟨s, rel, hp, hs, h6, ho, hi, hF, hW⟩ := h
  have c0 := hi.cell (j := 0) rfl
  have hl := lbn_of hm hn h6
  have hGl := hs.Glen
  have hpk := hl.pk
  have hE : x.gone.1.length = s.ended := by rw [hs.gone1, List.length_take, Nat.min_eq_left hs.ends.2.2]
  refine (wgone (A := GoneTo w P s s.ended) (fun e V h => let ⟨v, _, _, h1, _⟩ := h; ⟨v, h1⟩) c0 (pgone w P s hp (by omega))).mono ?_
  rintro e w1 ⟨v, vb, o, rfl, hr, hT, hv⟩
  have old : ∀ i, o i ≠ 0 ∨ i = P → F i ∨ w.heap.size ≤ i := fun i h => by
    rcases Nat.lt_or_ge i w.heap.size with g | g
    · have e := hT.oo i g
      have e' : o i = s.o i := e
      rw [e'] at h; exact .inl ((hF i).2 h)
    · exact .inr g
  refine ⟨v, fun i => o i ≠ 0 ∨ i = P, rfl, ?_, ⟨_, rel, hT.pm, hs.gone vb o, ?_, (hT.oo P hi.lt).trans ho, ?_, fun i => Iff.rfl, fun i h => ?_⟩, hT.ho.mono fun i _ h => (hF i).2 (.inl h), old, ?_⟩
  · rw [hE, hs.gone1]; exact hr
  · exact h6
  · exact hi.only hT.ho (fun h => h ho)
  · rcases old i h with g | g
    · exact hW i g
    · omega
  · rintro g hg1 (h | rfl)
    · exact h (hv g hg1)
    · have := (ownsRow_lt hr g hg1).1
      have := hi.lt
      omega
theorem lin_new (hbW : Below W.heap.size W w) (v : Value) (l : List Fl) (hv : Fls w v l) (hm : ∀ f ∈ l, f.may) (hl : l.length ≤ 6) :
    Calls Tryz.prog 32 #[v] w fun e w' => ∃ P F, e = .returned (.tuple #[.pointer (some ⟨P, 0, none⟩), .int .i64 0]) ∧ LinR W w' P (Ln.new l) F ∧ (∀ i, F i → w.heap.size ≤ i) ∧ Below w.heap.size w w' := by
  refine (wnew (A := fun Q w' => ∃ s rel, s.Q = Q ∧ (∀ P, PM w' P s) ∧ Sim (Ln.new l) s rel ∧ (∀ i, s.o i ≠ 0 → w.heap.size ≤ i) ∧ Below w.heap.size w w') v ((pnew_F v l w 0 hv hl hm).mono ?_)).mono ?_
  · rintro e w' ⟨s, rel, rfl, h1, h2, h3, h4⟩
    exact ⟨s.Q, rfl, s, rel, rfl, fun P => ⟨⟨h1.free, h1.inn, h1.oQ, h1.oM, h1.rd, h1.ord, h1.ot, h1.be, h1.fl, h1.hp⟩, h1.map⟩, h2, h3, h4⟩
  · rintro e w' ⟨Q, w1, rfl, ⟨s, rel, rfl, h1, h2, h3, h4⟩, hb1, hI⟩
    have hge : ∀ i, s.o i ≠ 0 ∨ i = w1.heap.size → w.heap.size ≤ i := fun i h => by
      rcases h with h | rfl
      · exact h3 i h
      · exact h4.size
    have hWs := hbW.size
    refine ⟨w1.heap.size, fun i => s.o i ≠ 0 ∨ i = w1.heap.size, rfl, ⟨s, rel, (h1 _).below hb1, h2, ?_, ?_, hI, fun i => Iff.rfl, fun i h => by have := hge i h; omega⟩, hge, bel_then h4 hb1⟩
    · show (l.map fun f => (⟨f, 0⟩ : Stt)).length ≤ 1000000
      rw [List.length_map]; omega
    · exact (h1 0).free _ (Nat.le_refl _)
end
end Go.Proofs.YtcnmajndackohaaGreatDoor
/-
  Plain: sums over what is left.
-/
namespace Go.Proofs.YtcnmajndackohaaGreatDoor
open Go.RowKit

def sm (g : Nat → Int) (left : Nat → Bool) : Nat → Int
  | 0 => 0
  | n + 1 => sm g left n + if left n = true then g n else 0
theorem sm_congr {g : Nat → Int} {l m : Nat → Bool} : ∀ (n : Nat), (∀ k, k < n → l k = m k) → sm g l n = sm g m n
  | 0, _ => rfl
  | n + 1, h => by
    show sm g l n + _ = sm g m n + _
    rw [sm_congr n (fun k hk => h k (by omega)), h n (by omega)]
theorem sm_strike {g : Nat → Int} {l : Nat → Bool} {k : Nat} (hk : l k = true) : ∀ (n : Nat), k < n → sm g l n = sm g (fun j => l j && !decide (j = k)) n + g k
  | 0, h => by omega
  | n + 1, h => by
    show sm g l n + (if l n = true then g n else 0) = (sm g (fun j => l j && !decide (j = k)) n + if (l n && !decide (n = k)) = true then g n else 0) + g k
    by_cases e : n = k
    · subst e
      rw [if_pos hk, sm_congr (m := fun j => l j && !decide (j = n)) n (fun j hj => by
        have : j ≠ n := by omega
        simp [this])]
      simp
    · rw [sm_strike hk n (by omega)]
      have : (l n && !decide (n = k)) = l n := by simp [e]
      rw [this]
      omega
theorem sm_zero {g : Nat → Int} {l : Nat → Bool} (h : ∀ k, l k = false) : ∀ n, sm g l n = 0
  | 0 => rfl
  | n + 1 => by
    show sm g l n + _ = 0
    rw [sm_zero h n, h n]; rfl
theorem sm_nonneg {g : Nat → Int} {l : Nat → Bool} (h : ∀ k, l k = true → 0 ≤ g k) : ∀ n, 0 ≤ sm g l n
  | 0 => Int.le_refl _
  | n + 1 => by
    show 0 ≤ sm g l n + _
    have := sm_nonneg h n
    split
    · have := h n (by assumption); omega
    · omega
theorem sm_le {g : Nat → Int} {l : Nat → Bool} {c : Int} (c0 : 0 ≤ c) (h : ∀ k, l k = true → g k ≤ c) : ∀ n : Nat, sm g l n ≤ n * c
  | 0 => by simp [sm]
  | n + 1 => by
    show sm g l n + _ ≤ ((n + 1 : Nat) : Int) * c
    have := sm_le c0 h n
    rw [Int.natCast_add, Int.add_mul]
    split
    · have := h n (by assumption); omega
    · omega
/-- All the packets of flows that wait. -/
theorem sm_count (pk : List Pk) (c : Pk → Bool) : ∀ n : Nat, sm (fun k => ((pk.countP fun p => decide (p.flow = (k : Int)) && c p : Nat) : Int)) (fun _ => true) n = ((pk.countP fun p => decide (0 ≤ p.flow) && decide (p.flow < (n : Int)) && c p : Nat) : Int)
  | 0 => by
    show (0 : Int) = _
    rw [List.countP_eq_zero.2 fun p _ => by simp; omega]
    rfl
  | n + 1 => by
    show sm _ _ n + _ = _
    rw [sm_count pk c n, if_pos rfl, ← Int.natCast_add]
    congr 1
    induction pk with
    | nil => rfl
    | cons p l ih =>
      simp only [List.countP_cons]
      have h1 : (if (decide (0 ≤ p.flow) && decide (p.flow < ((n + 1 : Nat) : Int)) && c p) = true then 1 else 0) = (if (decide (0 ≤ p.flow) && decide (p.flow < (n : Int)) && c p) = true then 1 else 0) + (if (decide (p.flow = (n : Int)) && c p) = true then 1 else 0) := by
        cases c p
        · simp
        · simp only [Bool.and_true, Bool.and_eq_true, decide_eq_true_eq]
          split <;> split <;> split <;> omega
      omega
def waF (fs : Nat → Option FS) (k : Nat) : Int := match fs k with
  | none => 0
  | some f => f.wa
section
variable {x : Ln} {s : PS} {rel : Int → Int}
theorem Sim.waits (h : Sim x s rel) : sm (waF s.fs) (fun k => (adrs s.fs k).isSome) x.fl.length = (x.waits : Int) := by
  have e1 : sm (waF s.fs) (fun k => (adrs s.fs k).isSome) x.fl.length = sm (fun k => ((x.pk.countP fun p => decide (p.flow = (k : Int)) && wt p : Nat) : Int)) (fun _ => true) x.fl.length := by
    have : ∀ n, n ≤ x.fl.length → sm (waF s.fs) (fun k => (adrs s.fs k).isSome) n = sm (fun k => ((x.pk.countP fun p => decide (p.flow = (k : Int)) && wt p : Nat) : Int)) (fun _ => true) n := by
      intro n
      induction n with
      | zero => intro _; rfl
      | succ n ih =>
        intro hn
        show sm _ _ n + _ = sm _ _ n + _
        rw [ih (by omega)]
        congr 1
        rw [if_pos rfl]
        show (if (adrs s.fs n).isSome = true then waF s.fs n else 0) = ((x.pk.countP fun p => decide (p.flow = (n : Int)) && wt p : Nat) : Int)
        cases hf : s.fs n with
        | some f =>
          have a : adrs s.fs n = some f.a := by unfold adrs; rw [hf]; rfl
          have b : waF s.fs n = f.wa := by unfold waF; rw [hf]
          obtain ⟨st, e1, _, _, _, e5, _⟩ := h.val n f hf
          rw [a, b, if_pos (by rfl), e5]
          unfold Ln.waiting
          congr 1
          exact List.countP_congr fun p _ => by unfold wt; rw [Bool.and_assoc]
        | none =>
          have a : adrs s.fs n = none := by unfold adrs; rw [hf]; rfl
          rw [a, if_neg (by simp), List.countP_eq_zero.2]
          · rfl
          · intro p hp hc
            simp only [Bool.and_eq_true, decide_eq_true_eq] at hc
            have h2 := h.aw p hp (by omega) hc.2
            rw [hc.1] at h2
            cases hst : x.fl[n]? with
            | none => rw [List.getElem?_eq_none_iff] at hst; omega
            | some st =>
              rw [is_at hst] at h2
              obtain ⟨f, hf'⟩ := (h.dom n).2 ⟨st, hst, h2⟩
              rw [hf] at hf'; cases hf'
    exact this _ (Nat.le_refl _)
  rw [e1, sm_count]
  unfold Ln.waits
  congr 1
  refine List.countP_congr fun p hp => ?_
  have hown := h.inv.own p hp
  simp only [wt, Bool.and_eq_true, decide_eq_true_eq]
  constructor
  · rintro ⟨⟨a, _⟩, b, c⟩; exact ⟨⟨a, b⟩, c⟩
  · rintro ⟨⟨a, b⟩, c⟩
    refine ⟨⟨a, ?_⟩, b, c⟩
    omega
end
end Go.Proofs.YtcnmajndackohaaGreatDoor
/-
  The library's contracts, laid at this program.
-/
namespace Go.Proofs
open Go.Shelf
def Tryz.lays189_ren : Go.Shelf.Ren := ⟨fun | 189 => 89 | 125 => 115 | 257 => 114 | 128 => 134 | 129 => 135 | 294 => 125 | 295 => 126 | 296 => 127 | 297 => 128 | 298 => 129 | 299 => 130 | 216 => 131 | 300 => 132 | 301 => 133 | 328 => 142 | 329 => 143 | 330 => 144 | 331 => 145 | 332 => 146 | 215 => 147 | 343 => 153 | n => n, fun | 28 => 27 | 3 => 3 | 46 => 190 | 0 => 0 | 51 => 213 | 53 => 215 | 4 => 4 | 183 => 205 | 182 => 204 | 131 => 210 | 5 => 5 | 9 => 9 | 218 => 227 | 222 => 231 | 228 => 238 | 229 => 150 | n => n, fun | n => n⟩
theorem Tryz.lays189 : Go.Proofs.Lays.n189 Tryz.prog Tryz.lays189_ren := {
  mixed := by kernel_rfl
  f125 := Tryz.func115.trans (congrArg some (by kernel_rfl))
  f128 := Tryz.func134.trans (congrArg some (by kernel_rfl))
  f129 := Tryz.func135.trans (congrArg some (by kernel_rfl))
  f189 := Tryz.func89.trans (congrArg some (by kernel_rfl))
  f215 := Tryz.func147.trans (congrArg some (by kernel_rfl))
  f216 := Tryz.func131.trans (congrArg some (by kernel_rfl))
  f257 := Tryz.func114.trans (congrArg some (by kernel_rfl))
  f294 := Tryz.func125.trans (congrArg some (by kernel_rfl))
  f295 := Tryz.func126.trans (congrArg some (by kernel_rfl))
  f296 := Tryz.func127.trans (congrArg some (by kernel_rfl))
  f297 := Tryz.func128.trans (congrArg some (by kernel_rfl))
  f298 := Tryz.func129.trans (congrArg some (by kernel_rfl))
  f299 := Tryz.func130.trans (congrArg some (by kernel_rfl))
  f300 := Tryz.func132.trans (congrArg some (by kernel_rfl))
  f301 := Tryz.func133.trans (congrArg some (by kernel_rfl))
  f328 := Tryz.func142.trans (congrArg some (by kernel_rfl))
  f329 := Tryz.func143.trans (congrArg some (by kernel_rfl))
  f330 := Tryz.func144.trans (congrArg some (by kernel_rfl))
  f331 := Tryz.func145.trans (congrArg some (by kernel_rfl))
  f332 := Tryz.func146.trans (congrArg some (by kernel_rfl))
  f343 := Tryz.func153.trans (congrArg some (by kernel_rfl))
  t0 := Tryz.underlying0
  a0 := Tryz.isAgg0
  z0 := Tryz.sizeOf0
  v0 := Tryz.zeroValue0
  t3 := Tryz.underlying3
  a3 := Tryz.isAgg3
  z3 := Tryz.sizeOf3
  v3 := Tryz.zeroValue3
  t4 := Tryz.underlying4
  a4 := Tryz.isAgg4
  z4 := Tryz.sizeOf4
  v4 := Tryz.zeroValue4
  t5 := Tryz.underlying5
  a5 := Tryz.isAgg5
  z5 := Tryz.sizeOf5
  v5 := Tryz.zeroValue5
  t9 := Tryz.underlying9
  a9 := Tryz.isAgg9
  z9 := Tryz.sizeOf9
  v9 := Tryz.zeroValue9
  t28 := Tryz.underlying27
  a28 := Tryz.isAgg27
  z28 := Tryz.sizeOf27
  v28 := Tryz.zeroValue27
  t46 := Tryz.underlying190
  a46 := Tryz.isAgg190
  z46 := Tryz.sizeOf190
  v46 := Tryz.zeroValue190
  t51 := Tryz.underlying213
  a51 := Tryz.isAgg213
  z51 := Tryz.sizeOf213
  v51 := Tryz.zeroValue213
  t53 := Tryz.underlying215
  a53 := Tryz.isAgg215
  z53 := Tryz.sizeOf215
  v53 := Tryz.zeroValue215
  t131 := Tryz.underlying210
  a131 := Tryz.isAgg210
  z131 := Tryz.sizeOf210
  v131 := Tryz.zeroValue210
  t182 := Tryz.underlying204
  a182 := Tryz.isAgg204
  z182 := Tryz.sizeOf204
  v182 := Tryz.zeroValue204
  t183 := Tryz.underlying205
  a183 := Tryz.isAgg205
  z183 := Tryz.sizeOf205
  v183 := Tryz.zeroValue205
  t218 := Tryz.underlying227
  a218 := Tryz.isAgg227
  z218 := Tryz.sizeOf227
  v218 := Tryz.zeroValue227
  t222 := Tryz.underlying231
  a222 := Tryz.isAgg231
  z222 := Tryz.sizeOf231
  v222 := Tryz.zeroValue231
  t228 := Tryz.underlying238
  a228 := Tryz.isAgg238
  z228 := Tryz.sizeOf238
  v228 := Tryz.zeroValue238
  t229 := Tryz.underlying150
  a229 := Tryz.isAgg150
  z229 := Tryz.sizeOf150
  v229 := Tryz.zeroValue150 }
open Go.Sort Go.RowKit in
theorem Tryz.slices_Sort_int (blk off cap : Nat) (zs : List Int) (w : World) (hH : Holds (Value.int .i64) w blk off zs.toArray) (hblk : blk < w.heap.size) (hsz : zs.length < 4611686018427387904) :
    Calls Tryz.prog 89 #[.slice (some ⟨blk, off, none⟩) zs.length cap] w fun e w' =>
      e = .returned (.tuple #[]) ∧ ∃ n os, w' = grow (putRow (Value.int .i64) (Sort.ahead w n) blk off (zs.mergeSort fun x y => decide (x ≤ y)).toArray) os := Any.slices_Sort_int Tryz.lays189 blk off cap zs w hH hblk hsz
def Tryz.laysNm237_ren : Go.Shelf.Ren := ⟨fun | 37 => 147 | n => n, fun | 3 => 3 | 4 => 4 | n => n, fun | n => n⟩
theorem Tryz.laysNm237 : Go.Proofs.Lays2.n37 Tryz.prog Tryz.laysNm237_ren := {
  mixed := by kernel_rfl
  f37 := Tryz.func147.trans (congrArg some (by kernel_rfl))
  t3 := Tryz.underlying3
  a3 := Tryz.isAgg3
  z3 := Tryz.sizeOf3
  v3 := Tryz.zeroValue3
  t4 := Tryz.underlying4
  a4 := Tryz.isAgg4
  z4 := Tryz.sizeOf4
  v4 := Tryz.zeroValue4 }
open Go.RowKit Go.Lib in
theorem Tryz.cmp_isNaN_int2 (x : Int) (w : World) :
    Calls Tryz.prog 147 #[.int .i64 x] w fun e w' => e = .returned (.bool false) ∧ w' = w := Any.cmp_isNaN_int2 Tryz.laysNm237 x w
def Tryz.laysNm231_ren : Go.Shelf.Ren := ⟨fun | 31 => 131 | 37 => 147 | n => n, fun | 3 => 3 | 4 => 4 | n => n, fun | n => n⟩
theorem Tryz.laysNm231 : Go.Proofs.Lays2.n31 Tryz.prog Tryz.laysNm231_ren := {
  mixed := by kernel_rfl
  f31 := Tryz.func131.trans (congrArg some (by kernel_rfl))
  f37 := Tryz.func147.trans (congrArg some (by kernel_rfl))
  t3 := Tryz.underlying3
  a3 := Tryz.isAgg3
  z3 := Tryz.sizeOf3
  v3 := Tryz.zeroValue3
  t4 := Tryz.underlying4
  a4 := Tryz.isAgg4
  z4 := Tryz.sizeOf4
  v4 := Tryz.zeroValue4 }
open Go.RowKit Go.Lib in
theorem Tryz.cmp_Less_int2 (x y : Int) (w : World) :
    Calls Tryz.prog 131 #[.int .i64 x, .int .i64 y] w fun e w' => e = .returned (.bool (decide (x < y))) ∧ w' = w := Any.cmp_Less_int2 Tryz.laysNm231 x y w
open Go.RowKit Go.Sort in
theorem Tryz.slices_Sort_int_none (p : Option Addr) (cap : Nat) (w : World) :
    Calls Tryz.prog 89 #[.slice p 0 cap] w fun e w' => e = .returned (.tuple #[]) ∧ w' = w := Any.slices_Sort_int_none Tryz.lays189 p cap w
end Go.Proofs
