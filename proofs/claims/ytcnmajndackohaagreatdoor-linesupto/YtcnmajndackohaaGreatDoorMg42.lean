import Derived.Test.YtcnmajndackohaaGreatDoorMg37
import Derived.Test.YtcnmajndackohaaGreatDoorMg35
import Derived.Test.YtcnmajndackohaaGreatDoorMg20
import Derived.Test.YtcnmajndackohaaGreatDoorMg26
import Derived.Test.YtcnmajndackohaaGreatDoorMg38
import Derived.Test.YtcnmajndackohaaGreatDoorMg22
/-
  The program's line, as the others use it: its calls but Look.
-/
namespace Go.Proofs.YtcnmajndackohaaGreatDoor
open Go.RowKit
attribute [local go_sem ↓] Go.wp_at_zero Go.wp_at_succ
/-- The line at block P. -/
def LinR (W w : World) (P : Nat) (x : Ln) (F : Nat → Prop) : Prop :=
  ∃ s rel, PM w P s ∧ Sim x s rel ∧ x.fl.length ≤ 1500000 ∧ s.o P = 0 ∧ Is w P 88 #[.pointer (some ⟨s.Q, 0, none⟩)] ∧ (∀ i, F i ↔ (s.o i ≠ 0 ∨ i = P)) ∧ ∀ i, F i → W.heap.size ≤ i
theorem lbn_of {x : Ln} {n : Nat} (h : Sml x n) (hn : n ≤ 2000000) (hf : x.fl.length ≤ 1500000) : Lbn x := by
  have h1 := h.now
  have h2 := h.pk
  exact ⟨by omega, by omega, by omega, fun p hp => by have := h.rd p hp; omega⟩
/-- A call that changes the line and tells. -/
theorem LinR.to {W w w' : World} {P : Nat} {y : Ln} {F : Nat → Prop} {s s' : PS} {rel : Int → Int} (ho : s.o P = 0) (hi : Is w P 88 #[.pointer (some ⟨s.Q, 0, none⟩)]) (hF : ∀ i, F i ↔ (s.o i ≠ 0 ∨ i = P)) (hW : ∀ i, F i → W.heap.size ≤ i) (hb : W.heap.size ≤ w.heap.size) (ht : PTo w P s w' s') (hs : Sim y s' rel) (hl : y.fl.length ≤ 1500000) :
    ∃ F', LinR W w' P y F' ∧ Only F w w' ∧ ∀ i, F' i → F i ∨ w.heap.size ≤ i := by
  have old : ∀ i, s'.o i ≠ 0 ∨ i = P → F i ∨ w.heap.size ≤ i := fun i h => by
    rcases Nat.lt_or_ge i w.heap.size with g | g
    · rw [ht.oo i g] at h; exact .inl ((hF i).2 h)
    · exact .inr g
  refine ⟨fun i => s'.o i ≠ 0 ∨ i = P, ⟨s', rel, ht.pm, hs, hl, (ht.oo P hi.lt).trans ho, ?_, fun i => Iff.rfl, fun i h => ?_⟩, ht.ho.mono fun i _ h => (hF i).2 (.inl h), old⟩
  · rw [ht.q]; exact hi.only ht.ho (fun h => h ho)
  · rcases old i h with g | g
    · exact hW i g
    · omega
theorem LinR.stay {W w w' : World} {P : Nat} {x : Ln} {F : Nat → Prop} (h : LinR W w P x F) (hb : Below w.heap.size w w') : LinR W w' P x F := by
  obtain ⟨s, rel, h1, h2, h3, h4, h5, h6, h7⟩ := h
  exact ⟨s, rel, h1.below hb, h2, h3, h4, h5.below hb, h6, h7⟩
section
variable {w : World} {P Q : Nat} {A : Value → World → Prop} {T : World → Prop} {z : Int}
theorem wsend (k s : Int) (c0 : w.cell? ⟨P, 0, none⟩ = some (.pointer (some ⟨Q, 0, none⟩))) (hin : Calls Tryz.prog 44 #[.pointer (some ⟨Q, 0, none⟩), .int .i64 k, .int .i64 s] w fun e w' => ∃ E, e = .returned E ∧ A E w')
    (hout : ∀ E W, A E W → Calls Tryz.prog 28 #[E] W fun e w' => e = .returned (.int .i64 z) ∧ T w') :
    Calls Tryz.prog 24 #[.pointer (some ⟨P, 0, none⟩), .int .i64 k, .int .i64 s] w fun e w' => e = .returned (.int .i64 z) ∧ T w' := by
  have H1 := hide hin
  have H2 := hide hout
  clear hin hout
  go_enter Tryz.func24, Tryz.ntmps24
  go_wp2_with fail
  refine (unhide H1).mono ?_
  rintro e w1 ⟨E, rfl, hA⟩
  have H3 := hide (unhide H2 E w1 hA)
  clear hA H1 H2 c0
  go_wp2_with fail
  refine (unhide H3).mono ?_
  rintro e w2 ⟨rfl, hT⟩
  go_wp2_with fail
  try go_ret
  try exact ⟨rfl, hT⟩
theorem wother (s : Int) (c0 : w.cell? ⟨P, 0, none⟩ = some (.pointer (some ⟨Q, 0, none⟩))) (hin : Calls Tryz.prog 40 #[.pointer (some ⟨Q, 0, none⟩), .int .i64 s] w fun e w' => ∃ E, e = .returned E ∧ A E w')
    (hout : ∀ E W, A E W → Calls Tryz.prog 28 #[E] W fun e w' => e = .returned (.int .i64 z) ∧ T w') :
    Calls Tryz.prog 21 #[.pointer (some ⟨P, 0, none⟩), .int .i64 s] w fun e w' => e = .returned (.int .i64 z) ∧ T w' := by
  have H1 := hide hin
  have H2 := hide hout
  clear hin hout
  go_enter Tryz.func21, Tryz.ntmps21
  go_wp2_with fail
  refine (unhide H1).mono ?_
  rintro e w1 ⟨E, rfl, hA⟩
  have H3 := hide (unhide H2 E w1 hA)
  clear hA H1 H2 c0
  go_wp2_with fail
  refine (unhide H3).mono ?_
  rintro e w2 ⟨rfl, hT⟩
  go_wp2_with fail
  try go_ret
  try exact ⟨rfl, hT⟩
theorem wrun (s : Int) (c0 : w.cell? ⟨P, 0, none⟩ = some (.pointer (some ⟨Q, 0, none⟩))) (hin : Calls Tryz.prog 60 #[.pointer (some ⟨Q, 0, none⟩), .int .i64 s] w fun e w' => ∃ E, e = .returned E ∧ A E w')
    (hout : ∀ E W, A E W → Calls Tryz.prog 28 #[E] W fun e w' => e = .returned (.int .i64 z) ∧ T w') :
    Calls Tryz.prog 41 #[.pointer (some ⟨P, 0, none⟩), .int .i64 s] w fun e w' => e = .returned (.int .i64 z) ∧ T w' := by
  have H1 := hide hin
  have H2 := hide hout
  clear hin hout
  go_enter Tryz.func41, Tryz.ntmps41
  go_wp2_with fail
  refine (unhide H1).mono ?_
  rintro e w1 ⟨E, rfl, hA⟩
  have H3 := hide (unhide H2 E w1 hA)
  clear hA H1 H2 c0
  go_wp2_with fail
  refine (unhide H3).mono ?_
  rintro e w2 ⟨rfl, hT⟩
  go_wp2_with fail
  try go_ret
  try exact ⟨rfl, hT⟩
theorem wgone {A : Ending → World → Prop} (hA : ∀ e W, A e W → ∃ v, e = .returned v) (c0 : w.cell? ⟨P, 0, none⟩ = some (.pointer (some ⟨Q, 0, none⟩))) (hin : Calls Tryz.prog 61 #[.pointer (some ⟨Q, 0, none⟩)] w fun e w' => A e w') :
    Calls Tryz.prog 42 #[.pointer (some ⟨P, 0, none⟩)] w fun e w' => A e w' := by
  have H1 := hide hin
  have H2 := hide hA
  clear hin hA
  go_enter Tryz.func42, Tryz.ntmps42
  go_wp2_with fail
  refine (unhide H1).mono ?_
  intro e w1 h
  obtain ⟨v, rfl⟩ := unhide H2 e w1 h
  clear H1 H2 c0
  have H3 := hide h
  clear h
  go_wp2_with fail
  try go_ret
  try exact unhide H3
theorem wnew {A : Nat → World → Prop} (v : Value) (hin : Calls Tryz.prog 53 #[v] w fun e w' => ∃ Q, e = .returned (.tuple #[.pointer (some ⟨Q, 0, none⟩), .nilIface]) ∧ A Q w') :
    Calls Tryz.prog 32 #[v] w fun e w' => ∃ Q w1, e = .returned (.tuple #[.pointer (some ⟨w1.heap.size, 0, none⟩), .int .i64 0]) ∧ A Q w1 ∧ Below w1.heap.size w1 w' ∧ Is w' w1.heap.size 88 #[.pointer (some ⟨Q, 0, none⟩)] := by
  have H1 := hide hin
  clear hin
  go_enter Tryz.func32, Tryz.ntmps32
  go_wp2_with fail
  refine (unhide H1).mono ?_
  rintro e w1 ⟨Q, rfl, hA⟩
  have H3 := hide hA
  clear H1 hA
  go_wp2_with fail
  go_ret2
  exact ⟨Q, w1, rfl, unhide H3, bel_one _, Is.new _ _ _⟩
end
end Go.Proofs.YtcnmajndackohaaGreatDoor
/-
  The program's line keeps to the document's.
-/
namespace Go.Proofs.YtcnmajndackohaaGreatDoor
open Go.RowKit
section
variable {W w : World} {P : Nat} {x : Ln} {F : Nat → Prop} {n : Nat} {a : Nat → Addr} {a0 a1 : Addr}
/-- Nothing is changed. -/
def Sty (W w : World) (P : Nat) (x : Ln) (F : Nat → Prop) (w' : World) : Prop := ∃ F', LinR W w' P x F' ∧ Only F w w' ∧ ∀ i, F' i → F i ∨ w.heap.size ≤ i
theorem sty_of (h : LinR W w P x F) {w' : World} (hb : Below w.heap.size w w') : Sty W w P x F w' := ⟨F, h.stay hb, Only.of_below hb, fun _ g => .inl g⟩
theorem live_none {s : PS} {rel : Int → Int} (hs : Sim x s rel) (k : Int) (h : x.at? k = none ∨ ∃ st, x.at? k = some st ∧ st.is ≠ 0) : NoLive s k := by
  rcases Int.lt_or_le k 0 with g | g
  · exact .inl (by unfold mAt; rw [if_neg (by omega)])
  · obtain ⟨j, rfl⟩ := Int.eq_ofNat_of_zero_le g
    have hat : x.at? (j : Int) = x.fl[j]? := by unfold Ln.at?; rw [if_pos (by omega), Int.toNat_natCast]
    rw [hat] at h
    cases hf : s.fs j with
    | none => exact .inl (by unfold mAt; rw [if_pos (by omega), Int.toNat_natCast]; unfold adrs; rw [hf]; rfl)
    | some f =>
      obtain ⟨st, e1, _, e3, _⟩ := hs.val j f hf
      rcases h with h | ⟨st', h, hi⟩
      · rw [h] at e1; cases e1
      · rw [h] at e1
        cases e1
        obtain ⟨st2, e4, e5⟩ := (hs.dom j).1 ⟨f, hf⟩
        rw [h] at e4
        cases e4
        refine .inr ⟨j, f, rfl, hf, ?_⟩
        rw [e3]
        have := hs.is _ (List.mem_of_getElem? h)
        simp; omega
theorem line_below (hb : Below W.heap.size W w) {w' : World} (hW : ∀ i, F i → W.heap.size ≤ i) (ho : Only F w w') : Below W.heap.size W w' :=
  ⟨ho.os.trans hb.os, ho.tape.trans hb.tape, ho.output.trans hb.output, Nat.le_trans hb.size ho.size, fun k hk => (ho.block k (Nat.lt_of_lt_of_le hk hb.size) (fun c => by have := hW k c; omega)).trans (hb.block k hk)⟩
theorem lin_send (hgW : GlA W a a0 a1) (hbW : Below W.heap.size W w) (h : LinR W w P x F) (hm : Sml x n) (hn : n ≤ 2000000) (k z : Int) (k0 : -9223372036854775808 ≤ k) (k1 : k ≤ 9223372036854775807) (z0 : -9223372036854775808 ≤ z) (z1 : z ≤ 9223372036854775807) :
    Calls Tryz.prog 24 #[.pointer (some ⟨P, 0, none⟩), .int .i64 k, .int .i64 z] w fun e w' => e = .returned (.int .i64 (x.send k z).1) ∧ Sty W w P (x.send k z).2 F w' := by
  have hR := h
  have hg := hgW.below hbW
  have hb := hbW.size
  obtain ⟨s, rel, hp, hs, h6, ho, hi, hF, hW⟩ := h
  have c0 := hi.cell (j := 0) rfl
  have hl := lbn_of hm hn h6
  have bad : ∀ (b : Addr) (c : Int), Calls Tryz.prog 44 #[.pointer (some ⟨s.Q, 0, none⟩), .int .i64 k, .int .i64 z] w (fun e w' => (∃ l, e = .returned (chn l b)) ∧ Below w.heap.size w w') →
      (∀ l W, Snt W a → Calls Tryz.prog 28 #[chn l b] W fun e w' => e = .returned (.int .i64 c) ∧ Below W.heap.size W w') →
      Calls Tryz.prog 24 #[.pointer (some ⟨P, 0, none⟩), .int .i64 k, .int .i64 z] w fun e w' => e = .returned (.int .i64 c) ∧ Sty W w P x F w' := fun b c h1 h2 => by
    refine wsend (A := fun E w' => ∃ l, E = chn l b ∧ Below w.heap.size w w') k z c0 (h1.mono ?_) ?_
    · rintro e w' ⟨⟨l, rfl⟩, hb1⟩; exact ⟨_, rfl, l, rfl, hb1⟩
    · rintro E w1 ⟨l, rfl, hb1⟩
      refine (h2 l w1 (hg.s.below hb1)).mono ?_
      rintro e w2 ⟨rfl, hb2⟩
      exact ⟨rfl, sty_of hR (bel_then hb1 hb2)⟩
  by_cases h4 : x.at? k = none ∨ ∃ st, x.at? k = some st ∧ st.is ≠ 0
  · have e : x.send k z = (4, x) := by
      unfold Ln.send
      rcases h4 with h4 | ⟨st, h4, h5⟩
      · rw [h4]
      · rw [h4]; simp only; rw [if_pos h5]
    rw [e]
    exact bad _ 4 (psend_none w P s hp k z k0 k1 (live_none hs k h4) a a0 a1 hg) (fun l W hS => errno_ErrNone l a W hS)
  · have g := Int.lt_or_le k 0
    have kz : 0 ≤ k := by
      rcases g with g | g
      · exact absurd (.inl (by unfold Ln.at?; rw [if_neg (by omega)])) h4
      · exact g
    obtain ⟨j, rfl⟩ := Int.eq_ofNat_of_zero_le kz
    have hat : x.at? (j : Int) = x.fl[j]? := by unfold Ln.at?; rw [if_pos (by omega), Int.toNat_natCast]
    cases hst : x.fl[j]? with
    | none => exact absurd (.inl (hat.trans hst)) h4
    | some st =>
      have h0 : st.is = 0 := Classical.byContradiction fun c => h4 (.inr ⟨st, hat.trans hst, c⟩)
      obtain ⟨f, hf⟩ := (hs.dom j).2 ⟨st, hst, by omega⟩
      obtain ⟨st', e1, e2, e3, e4, e5, e6, e7⟩ := hs.val j f hf
      rw [hst] at e1
      cases e1
      have ht : f.torn = false := by rw [e3, h0]; rfl
      have es : x.send (j : Int) z = if z < 1 ∨ st.f.s < z then (5, x) else if 40 ≤ x.waiting (j : Int) then (6, x) else (0, x.push j z (x.readyAt st.f j z)) := by
        unfold Ln.send
        rw [hat, hst]
        simp only
        rw [if_neg (by omega)]
      have hwl := hs.wait_le (j : Int)
      have hpk := hl.pk
      by_cases h5 : z < 1 ∨ st.f.s < z
      · rw [es, if_pos h5]
        exact bad _ 5 (psend_bad w P s hp j z k1 f hf ht a a0 a1 _ hg fun V hV => accept_size z f.f.s f.wa V a a0 a1 hV z0 z1 (by rw [e2]; exact h5)) (fun l W hS => errno_ErrSize l a W hS)
      · by_cases h7 : 40 ≤ x.waiting (j : Int)
        · rw [es, if_neg h5, if_pos h7]
          exact bad _ 6 (psend_bad w P s hp j z k1 f hf ht a a0 a1 _ hg fun V hV => accept_quota z f.f.s f.wa V a a0 a1 hV (by omega) (by rw [e2]; omega) (by rw [e5]; omega) (by rw [e5]; omega)) (fun l W hS => errno_ErrQuota l a W hS)
        · have hmay := hs.inv.may st (List.mem_of_getElem? hst)
          have hod : ∃ B, Od (x.push j z (x.readyAt f.f j z)) B := by
            obtain ⟨B, hB⟩ := hs.od
            have := od_send hB (j : Int) z
            rw [es, if_neg h5, if_neg h7, ← e2] at this
            exact ⟨B, this⟩
          obtain ⟨p1, p2, p3⟩ := hs.pass hl hf (size := z) (by omega) (by rw [e2]; omega)
          have hLl : f.L.length ≤ x.pk.length := by rw [e6]; exact List.length_filter_le _ _
          have hsq : x.seqOf (j : Int) ≤ x.pk.length := by unfold Ln.seqOf; have := List.countP_le_length (p := fun p : Pk => decide (p.flow = (j : Int))) (l := x.pk); omega
          have hsq0 : (0 : Int) ≤ (x.seqOf (j : Int) : Int) := by omega
          have hsn := hs.now
          have hxn := hl.now
          have hx0 := hs.inv.n0
          have hc := psend_ok w P s hp j z (x.readyAt f.f j z) k1 f hf ht (by omega) (by rw [e2]; omega) (by obtain ⟨_, s1, _⟩ := hmay; omega) (by rw [e5]; omega) (by rw [e5]; omega) p1 (by omega) (by omega) p2 (by rw [e4]; exact hsq0) (by rw [e4]; omega) (by omega)
          rw [es, if_neg h5, if_neg h7, ← e2]
          refine wsend (A := fun E w' => E = .nilIface ∧ ∃ v' o', PTo w P s w' { s with fs := upd s.fs j (f.sent v' s.now z (x.readyAt f.f j z) j), o := o' }) (j : Int) z c0 (hc.mono ?_) ?_
          · rintro e w' ⟨rfl, hT⟩; exact ⟨_, rfl, rfl, hT⟩
          · rintro E w1 ⟨rfl, v', o', hT⟩
            obtain ⟨F', q1, q2, q3⟩ := LinR.to ho hi hF hW hb hT (hs.send hl hf ht (by omega) (by rw [e2]; omega) v' o' hod) (show x.fl.length ≤ 1500000 from h6)
            have hS1 : Sts w1 := hgW.s.sts.below (line_below hbW hW q2)
            refine (errno_none w1 hS1).mono ?_
            rintro e w2 ⟨rfl, rfl⟩
            exact ⟨rfl, F', q1, q2, q3⟩
theorem lin_other (hgW : GlA W a a0 a1) (hbW : Below W.heap.size W w) (h : LinR W w P x F) (hm : Sml x n) (hn : n ≤ 2000000) (z : Int) (z0 : -9223372036854775808 ≤ z) (z1 : z ≤ 9223372036854775807) :
    Calls Tryz.prog 21 #[.pointer (some ⟨P, 0, none⟩), .int .i64 z] w fun e w' => e = .returned (.int .i64 (x.other z).1) ∧ Sty W w P (x.other z).2 F w' := by
  have hR := h
  have hg := hgW.below hbW
  have hb := hbW.size
  obtain ⟨s, rel, hp, hs, h6, ho, hi, hF, hW⟩ := h
  have c0 := hi.cell (j := 0) rfl
  have hl := lbn_of hm hn h6
  have hOl : s.O.length = x.waiting (-1) := by
    rw [hs.O, ← List.countP_eq_length_filter]
    unfold Ln.waiting
    exact List.countP_congr fun p _ => by simp [othB, wt, and_assoc]
  have hwl := hs.wait_le (-1)
  have hpk := hl.pk
  have bad : ∀ (b : Addr) (c : Int), Calls Tryz.prog 40 #[.pointer (some ⟨s.Q, 0, none⟩), .int .i64 z] w (fun e w' => (∃ l, e = .returned (chn l b)) ∧ Below w.heap.size w w') →
      (∀ l W, Snt W a → Calls Tryz.prog 28 #[chn l b] W fun e w' => e = .returned (.int .i64 c) ∧ Below W.heap.size W w') →
      Calls Tryz.prog 21 #[.pointer (some ⟨P, 0, none⟩), .int .i64 z] w fun e w' => e = .returned (.int .i64 c) ∧ Sty W w P x F w' := fun b c h1 h2 => by
    refine wother (A := fun E w' => ∃ l, E = chn l b ∧ Below w.heap.size w w') z c0 (h1.mono ?_) ?_
    · rintro e w' ⟨⟨l, rfl⟩, hb1⟩; exact ⟨_, rfl, l, rfl, hb1⟩
    · rintro E w1 ⟨l, rfl, hb1⟩
      refine (h2 l w1 (hg.s.below hb1)).mono ?_
      rintro e w2 ⟨rfl, hb2⟩
      exact ⟨rfl, sty_of hR (bel_then hb1 hb2)⟩
  by_cases h5 : z < 1 ∨ 8 < z
  · have e : x.other z = (5, x) := by unfold Ln.other; rw [if_pos h5]
    rw [e]
    exact bad _ 5 (pother_bad w P s hp z (by omega) a a0 a1 _ hg fun V hV => accept_size z 8 _ V a a0 a1 hV z0 z1 h5) (fun l W hS => errno_ErrSize l a W hS)
  · by_cases h7 : 40 ≤ x.waiting (-1)
    · have e : x.other z = (6, x) := by unfold Ln.other; rw [if_neg h5, if_pos h7]
      rw [e]
      exact bad _ 6 (pother_bad w P s hp z (by omega) a a0 a1 _ hg fun V hV => accept_quota z 8 _ V a a0 a1 hV (by omega) (by omega) (by omega) (by omega)) (fun l W hS => errno_ErrQuota l a W hS)
    · have e : x.other z = (0, x.push (-1) z x.now) := by unfold Ln.other; rw [if_neg h5, if_neg h7]
      have hod : ∃ B, Od (x.push (-1) z x.now) B := by
        obtain ⟨B, hB⟩ := hs.od
        have := od_other hB z
        rw [e] at this
        exact ⟨B, this⟩
      have hsn := hs.now
      have hx0 := hs.inv.n0
      have hbr := hs.br
      have hsq : x.seqOf (-1) ≤ x.pk.length := by unfold Ln.seqOf; exact List.countP_le_length
      have hc := pother_ok w P s hp z (by omega) (by omega) (by omega) (by omega) (by omega) (by omega)
      rw [e]
      refine wother (A := fun E w' => E = .nilIface ∧ ∃ v' o', PTo w P s w' { s with vo := v', O := s.O ++ [⟨-1, s.br, z, s.now, -1, false, false⟩], br := s.br + 1, o := o' }) z c0 (hc.mono ?_) ?_
      · rintro e w' ⟨rfl, hT⟩; exact ⟨_, rfl, rfl, hT⟩
      · rintro E w1 ⟨rfl, v', o', hT⟩
        obtain ⟨F', q1, q2, q3⟩ := LinR.to ho hi hF hW hb hT (hs.other v' o' hod) (show x.fl.length ≤ 1500000 from h6)
        refine (errno_none w1 (hgW.s.sts.below (line_below hbW hW q2))).mono ?_
        rintro e w2 ⟨rfl, rfl⟩
        exact ⟨rfl, F', q1, q2, q3⟩
theorem gl_arg (h : GlA w a a0 a1) : a 0 = a0 := by
  have h1 := h.s.c 0 (by decide)
  have h2 := h.g.e0
  rw [h1] at h2
  simpa using h2
theorem lin_run (hgW : GlA W a a0 a1) (hbW : Below W.heap.size W w) (h : LinR W w P x F) (hm : Sml x n) (hn : n ≤ 2000000) (t : Int) (t0 : -9223372036854775808 ≤ t) (t1 : t ≤ 9223372036854775807) :
    Calls Tryz.prog 41 #[.pointer (some ⟨P, 0, none⟩), .int .i64 t] w fun e w' => e = .returned (.int .i64 (x.run t).1) ∧ Sty W w P (x.run t).2 F w' := by
  have hR := h
  have hg := hgW.below hbW
  have hb := hbW.size
  obtain ⟨s, rel, hp, hs, h6, ho, hi, hF, hW⟩ := h
  have c0 := hi.cell (j := 0) rfl
  have hl := lbn_of hm hn h6
  by_cases h5 : t < 0 ∨ 200 < t
  · have e : x.run t = (1, x) := by unfold Ln.run; rw [if_pos h5]
    rw [e]
    refine wrun (A := fun E w' => ∃ l, E = chn l (a 0) ∧ Below w.heap.size w w') t c0 ((prun_bad w s.Q t a a0 a1 hg t0 t1 h5).mono ?_) ?_
    · rintro e w' ⟨⟨l, rfl⟩, hb1⟩; exact ⟨_, rfl, l, rfl, hb1⟩
    · rintro E w1 ⟨l, rfl, hb1⟩
      rw [gl_arg hg]
      refine (errno_arg l a0 a1 w1 (hg.below hb1).g.toGl).mono ?_
      rintro e w2 ⟨rfl, hb2⟩
      exact ⟨rfl, sty_of hR (bel_then hb1 hb2)⟩
  · have e : x.run t = (0, x.ticks t.toNat) := by unfold Ln.run; rw [if_neg h5]
    rw [e]
    have hmn := hm.now
    refine wrun (A := fun E w' => E = .nilIface ∧ PSto w P s w' (x.ticks t.toNat)) t c0 ((prun_ok w P x s rel t hp hs hl (by omega) (by omega) (by omega)).mono ?_) ?_
    · rintro e w' ⟨rfl, hT⟩; exact ⟨_, rfl, rfl, hT⟩
    · rintro E w1 ⟨rfl, s', rel', hT, hs'⟩
      obtain ⟨F', q1, q2, q3⟩ := LinR.to ho hi hF hW hb hT hs' (by rw [ticks_fls]; exact h6)
      refine (errno_none w1 (hgW.s.sts.below (line_below hbW hW q2))).mono ?_
      rintro e w2 ⟨rfl, rfl⟩
      exact ⟨rfl, F', q1, q2, q3⟩
theorem lin_gone (hbW : Below W.heap.size W w) (h : LinR W w P x F) (hm : Sml x n) (hn : n ≤ 2000000) :
    Calls Tryz.prog 42 #[.pointer (some ⟨P, 0, none⟩)] w fun e w' => ∃ v F', e = .returned v ∧ w'.ownsRow w.heap.size 63 6 v x.gone.1.length (gcells x.gone.1) ∧ LinR W w' P x.gone.2 F' ∧ Only F w w' ∧ (∀ i, F' i → F i ∨ w.heap.size ≤ i) ∧ ∀ g, v.ownBlock = some g → ¬ F' g := by
  have hb := hbW.size
  obtain ⟨s, rel, hp, hs, h6, ho, hi, hF, hW⟩ := h
  have c0 := hi.cell (j := 0) rfl
  have hl := lbn_of hm hn h6
  have hGl := hs.Glen
  have hpk := hl.pk
  have hE : x.gone.1.length = s.ended := by rw [hs.gone1, List.length_take, Nat.min_eq_left hs.ends.2.2]
  refine (wgone (A := GoneTo w P s s.ended) (fun e V h => let ⟨v, _, _, h1, _⟩ := h; ⟨v, h1⟩) c0 (pgone w P s hp (by omega))).mono ?_
  rintro e w1 ⟨v, vb, o, rfl, hr, hT, hv⟩
  have old : ∀ i, o i ≠ 0 ∨ i = P → F i ∨ w.heap.size ≤ i := fun i h => by
    rcases Nat.lt_or_ge i w.heap.size with g | g
    · have e := hT.oo i g
      have e' : o i = s.o i := e
      rw [e'] at h; exact .inl ((hF i).2 h)
    · exact .inr g
  refine ⟨v, fun i => o i ≠ 0 ∨ i = P, rfl, ?_, ⟨_, rel, hT.pm, hs.gone vb o, ?_, (hT.oo P hi.lt).trans ho, ?_, fun i => Iff.rfl, fun i h => ?_⟩, hT.ho.mono fun i _ h => (hF i).2 (.inl h), old, ?_⟩
  · rw [hE, hs.gone1]; exact hr
  · exact h6
  · exact hi.only hT.ho (fun h => h ho)
  · rcases old i h with g | g
    · exact hW i g
    · omega
  · rintro g hg1 (h | rfl)
    · exact h (hv g hg1)
    · have := (ownsRow_lt hr g hg1).1
      have := hi.lt
      omega
theorem lin_new (hbW : Below W.heap.size W w) (v : Value) (l : List Fl) (hv : Fls w v l) (hm : ∀ f ∈ l, f.may) (hl : l.length ≤ 6) :
    Calls Tryz.prog 32 #[v] w fun e w' => ∃ P F, e = .returned (.tuple #[.pointer (some ⟨P, 0, none⟩), .int .i64 0]) ∧ LinR W w' P (Ln.new l) F ∧ (∀ i, F i → w.heap.size ≤ i) ∧ Below w.heap.size w w' := by
  refine (wnew (A := fun Q w' => ∃ s rel, s.Q = Q ∧ (∀ P, PM w' P s) ∧ Sim (Ln.new l) s rel ∧ (∀ i, s.o i ≠ 0 → w.heap.size ≤ i) ∧ Below w.heap.size w w') v ((pnew_F v l w 0 hv hl hm).mono ?_)).mono ?_
  · rintro e w' ⟨s, rel, rfl, h1, h2, h3, h4⟩
    exact ⟨s.Q, rfl, s, rel, rfl, fun P => ⟨⟨h1.free, h1.inn, h1.oQ, h1.oM, h1.rd, h1.ord, h1.ot, h1.be, h1.fl, h1.hp⟩, h1.map⟩, h2, h3, h4⟩
  · rintro e w' ⟨Q, w1, rfl, ⟨s, rel, rfl, h1, h2, h3, h4⟩, hb1, hI⟩
    have hge : ∀ i, s.o i ≠ 0 ∨ i = w1.heap.size → w.heap.size ≤ i := fun i h => by
      rcases h with h | rfl
      · exact h3 i h
      · exact h4.size
    have hWs := hbW.size
    refine ⟨w1.heap.size, fun i => s.o i ≠ 0 ∨ i = w1.heap.size, rfl, ⟨s, rel, (h1 _).below hb1, h2, ?_, ?_, hI, fun i => Iff.rfl, fun i h => by have := hge i h; omega⟩, hge, bel_then h4 hb1⟩
    · show (l.map fun f => (⟨f, 0⟩ : Stt)).length ≤ 1500000
      rw [List.length_map]; omega
    · exact (h1 0).free _ (Nat.le_refl _)
end
end Go.Proofs.YtcnmajndackohaaGreatDoor
/-
  Plain: the shapes of the flows that are gathered, in any order.
-/
namespace Go.Proofs.YtcnmajndackohaaGreatDoor
open Go.RowKit
theorem tot_perm (t : Int) {l m : List Fl} (h : l.Perm m) : tot t l = tot t m := by
  induction h with
  | nil => rfl
  | cons a _ ih => show a.e t + tot t _ = a.e t + tot t _; rw [ih]
  | swap a b l => show b.e t + (a.e t + tot t l) = a.e t + (b.e t + tot t l); omega
  | trans _ _ i j => exact i.trans j
theorem viol_perm {l m : List Fl} (h : l.Perm m) : viol l = viol m := by
  have hv : ∀ u, vioB l u = vioB m u := fun u => by unfold vioB; rw [tot_perm u h]
  rcases viol_spec l with ⟨a1, a2⟩ | ⟨a1, a2, a3, a4⟩ <;> rcases viol_spec m with ⟨b1, b2⟩ | ⟨b1, b2, b3, b4⟩
  · rw [a1, b1]
  · have := a2 _ b1 b2
    rw [hv, b3] at this; cases this
  · have := b2 _ a1 a2
    rw [← hv, a3] at this; cases this
  · rcases Int.lt_trichotomy (viol l) (viol m) with g | g | g
    · have := b4 _ a1 g
      rw [← hv, a3] at this; cases this
    · exact g
    · have := a4 _ b1 g
      rw [hv, b3] at this; cases this
def shO : Option FS → List Fl
  | none => []
  | some f => [f.f]
/-- The shapes of those that are left no more. -/
def shp (fs : Nat → Option FS) (left : Nat → Bool) : Nat → List Fl
  | 0 => []
  | n + 1 => shp fs left n ++ if left n = true then [] else shO (fs n)
theorem shp_congr {fs : Nat → Option FS} {l m : Nat → Bool} : ∀ (n : Nat), (∀ k, k < n → l k = m k) → shp fs l n = shp fs m n
  | 0, _ => rfl
  | n + 1, h => by
    show shp fs l n ++ _ = shp fs m n ++ _
    rw [shp_congr n (fun k hk => h k (by omega)), h n (by omega)]
theorem shp_strike {fs : Nat → Option FS} {l : Nat → Bool} {k : Nat} {f : FS} (hk : l k = true) (hf : fs k = some f) : ∀ (n : Nat), k < n → (shp fs (fun j => l j && !decide (j = k)) n).Perm (shp fs l n ++ [f.f])
  | 0, h => by omega
  | n + 1, h => by
    show (shp fs (fun j => l j && !decide (j = k)) n ++ if (l n && !decide (n = k)) = true then [] else shO (fs n)).Perm ((shp fs l n ++ if l n = true then [] else shO (fs n)) ++ [f.f])
    by_cases e : n = k
    · subst e
      rw [if_pos hk, hf, shp_congr (m := l) n (fun j hj => by
        have : j ≠ n := by omega
        simp [this])]
      simp [shO]
    · have hs := shp_strike hk hf n (by omega)
      have : (l n && !decide (n = k)) = l n := by simp [e]
      rw [this]
      refine (hs.append_right _).trans ?_
      rw [List.append_assoc, List.append_assoc]
      exact List.Perm.append_left _ List.perm_append_comm
theorem shp_start {fs : Nat → Option FS} : ∀ n, shp fs (fun k => (adrs fs k).isSome) n = []
  | 0 => rfl
  | n + 1 => by
    show shp fs _ n ++ _ = []
    rw [shp_start n]
    show [] ++ (if (adrs fs n).isSome = true then [] else shO (fs n)) = []
    unfold adrs
    cases fs n <;> rfl
theorem shp_length {fs : Nat → Option FS} : ∀ n, (shp fs (fun _ => false) n).length = (List.range n).countP fun k => (adrs fs k).isSome
  | 0 => rfl
  | n + 1 => by
    show (shp fs _ n ++ _).length = _
    rw [List.length_append, shp_length n, List.range_succ, List.countP_append]
    congr 1
    unfold adrs
    cases h : fs n <;> simp [shO, h]
theorem shp_le {fs : Nat → Option FS} {l : Nat → Bool} : ∀ n, (shp fs l n).length ≤ (shp fs (fun _ => false) n).length
  | 0 => Nat.le_refl _
  | n + 1 => by
    show (shp fs l n ++ _).length ≤ (shp fs _ n ++ _).length
    rw [List.length_append, List.length_append]
    have := shp_le (fs := fs) (l := l) n
    have h2 : (if l n = true then [] else shO (fs n)).length ≤ (shO (fs n)).length := by
      split
      · exact Nat.zero_le _
      · exact Nat.le_refl _
    have h3 : (if (fun _ : Nat => false) n = true then [] else shO (fs n)) = shO (fs n) := rfl
    rw [h3]
    omega
section
variable {x : Ln} {s : PS} {rel : Int → Int}
theorem Sim.shapes (h : Sim x s rel) : shp s.fs (fun _ => false) x.fl.length = lv x.fl := by
  have : ∀ n, n ≤ x.fl.length → shp s.fs (fun _ => false) n = lv (x.fl.take n) := by
    intro n
    induction n with
    | zero => intro _; rfl
    | succ n ih =>
      intro hn
      have hl : n < x.fl.length := by omega
      show shp s.fs _ n ++ _ = _
      rw [ih (by omega), List.take_succ_eq_append_getElem hl]
      have e : lv (x.fl.take n ++ [x.fl[n]]) = lv (x.fl.take n) ++ lv [x.fl[n]] := by unfold lv; rw [List.filter_append, List.map_append]
      rw [e]
      congr 1
      have hg : x.fl[n]? = some x.fl[n] := List.getElem?_eq_getElem hl
      by_cases hi : x.fl[n].is < 2
      · obtain ⟨f, hf⟩ := (h.dom n).2 ⟨_, hg, hi⟩
        obtain ⟨st, h1, h2, _⟩ := h.val n f hf
        rw [hg] at h1
        obtain rfl := Option.some.inj h1
        rw [hf]
        show [f.f] = _
        unfold lv
        rw [List.filter_cons_of_pos (by simpa using hi), h2]
        rfl
      · have hf : s.fs n = none := by
          cases hf : s.fs n with
          | none => rfl
          | some f =>
            obtain ⟨st, h1, h2⟩ := (h.dom n).1 ⟨f, hf⟩
            rw [hg] at h1
            obtain rfl := Option.some.inj h1
            exact absurd h2 hi
        rw [hf]
        unfold lv
        rw [List.filter_cons_of_neg (by simpa using hi)]
        rfl
  have h2 := this _ (Nat.le_refl _)
  rwa [List.take_length] at h2
/-- How many flows there are. -/
theorem Sim.count (h : Sim x s rel) : ((List.range x.fl.length).countP fun k => (adrs s.fs k).isSome) = x.live.length := by
  rw [← shp_length, h.shapes]; rfl
end
end Go.Proofs.YtcnmajndackohaaGreatDoor
/-
  What the program's admit tells.
-/
namespace Go.Proofs.YtcnmajndackohaaGreatDoor
open Go.RowKit
attribute [local go_sem ↓] Go.wp_at_zero Go.wp_at_succ
def flA (f : Fl) : Value := .agg #[.int .i64 f.s, .int .i64 f.p, .int .i64 f.b, .int .i64 f.r, .int .i64 f.d]
set_option maxRecDepth 100000 in
set_option maxHeartbeats 4000000 in
theorem padmit_bad (w : World) (Q : Nat) (f : Fl) (hf : ¬ f.may) (a0 a1 : Addr) (hg : GlT w a0 a1) :
    Calls Tryz.prog 113 #[.pointer (some ⟨Q, 0, none⟩), flA f] w fun e w' => (∃ l, e = .returned (chn l a0)) ∧ Below w.heap.size w w' := by
  have HC := hide (fun W (hW : Below w.heap.size w W) => check_bad f.s f.p f.b f.r f.d a0 W (hg.below hW).e0 hf)
  unfold flA
  clear hg hf
  go_enter Tryz.func113, Tryz.ntmps113
  go_wp2_with fail
  refine (unhide HC _ (bel_one _)).mono ?_
  rintro e w1 ⟨⟨q, rfl⟩, hb1⟩
  have HB1 := hide (bel_then (bel_one _) hb1)
  obtain ⟨T, x, hx⟩ := chn_form [q] a0
  have HX := hide hx
  rw [hx]
  clear hb1 HC hx
  go_wp2_with fail
  go_ret
  exact ⟨⟨[q], ret_val (unhide HX).symm⟩, unhide HB1⟩
set_option maxRecDepth 100000 in
set_option maxHeartbeats 4000000 in
theorem padmit_full (w : World) (P : Nat) (s : PS) (h : PM w P s) (f : Fl) (hf : f.may) (N : Nat) (hN : ∀ k, N ≤ k → adrs s.fs k = none) (hN1 : N ≤ 1500000) (h6 : 6 ≤ (List.range N).countP fun k => (adrs s.fs k).isSome) (a : Nat → Addr) (a0 a1 : Addr) (hg : GlA w a a0 a1) :
    Calls Tryz.prog 113 #[.pointer (some ⟨s.Q, 0, none⟩), flA f] w fun e w' => (∃ l, e = .returned (chn l (a 1))) ∧ Below w.heap.size w w' := by
  have HC := hide (fun W => check_ok f.s f.p f.b f.r f.d W hf)
  have hle : ((List.range N).countP fun k => (adrs s.fs k).isSome) ≤ N := by have := List.countP_le_length (p := fun k => (adrs s.fs k).isSome) (l := List.range N); rwa [List.length_range] at this
  have HLen := hide (fun W (hW : Below w.heap.size w W) => (h.below hW).map.len hN 3)
  generalize ((List.range N).countP fun k => (adrs s.fs k).isSome) = n at *
  have hsz := txt_size (n : Int) (by omega) (by omega)
  have HI := hide (fun W hW => itoa_any (n : Int) W a0 a1 (by omega) (by omega) hW)
  generalize txt (n : Int) = tx at *
  have hadd : ∀ W, (Op.stringOp .add tx { data := #[32, 102, 108, 111, 119, 115] }).run Tryz.prog W = .ok (.string (tx ++ { data := #[32, 102, 108, 111, 119, 115] })) W := fun W => run_string_add_sum W _ _ (by have : (ByteArray.mk #[32, 102, 108, 111, 119, 115]).size = 6 := rfl; omega)
  have HH := hide h
  have HG := hide hg
  have g00 := hg.s.c 1 (by decide)
  generalize a 1 = b at *
  have HG0 := hide g00
  have hn6 : (6 : Int) ≤ (n : Int) := by omega
  unfold flA
  clear h hf hg hN h6 g00
  go_enter Tryz.func113, Tryz.ntmps113
  go_wp2_with fail
  refine (unhide HC _).mono ?_
  rintro e w1 ⟨rfl, hb1⟩
  have hB := bel_then (bel_one (w := w) _) hb1
  have HB1 := hide hB
  have hlen := unhide HLen w1 hB
  have c1 := ((unhide HH).below hB).c1
  have HG1 := hide ((unhide HG).below hB)
  have g0 := (hB.cell (World.block_lt_of_cell? _ _ (unhide HG0))).trans (unhide HG0)
  clear hb1 HC hB
  go_wp2_with fail
  go_region_held3 (fun w' => w'.cell? ⟨1, 0, none⟩ = some (.iface 242 (.pointer (some b))) ∧ GlA w' a a0 a1 ∧ Below w1.heap.size w1 w')
    (first | exact ⟨g0, (unhide HG1).drew, (Below.refl _ _).drew⟩ | exact heldA_below (by assumption) (by assumption) | assumption)
    (first
      | (go_at_call 66; refine (unhide HI _ (heldA_gl (by assumption))).mono ?_; rintro e w' ⟨rfl, hb'⟩)
      | (go_at_call 46; refine (in_some _ _ _ _).mono ?_; rintro e w' ⟨rfl, rfl⟩))
  rename_i hH
  have HB2 := hide (bel_then (unhide HB1) hH.2.2)
  clear hH
  generalize hE : plc (tx ++ { data := #[32, 102, 108, 111, 119, 115] }) (Value.iface 242 (Value.pointer (some b))) = E at *
  have HE := hide hE
  clear hE hadd
  go_wp2_with fail
  go_ret
  exact ⟨⟨[tx ++ { data := #[32, 102, 108, 111, 119, 115] }], ret_val (by rw [← unhide HE]; rfl)⟩, unhide HB2⟩
theorem row_lenS {w : World} {b : Nat} {t : TypeId} {v : Value} {n size : Nat} {xs : List Value} (h : w.ownsRow b t size v n xs) : ∃ a c, v = .slice a n c := by
  rcases h.2 with ⟨e1, e2⟩ | ⟨g, cap, cur, e1, _⟩
  · exact ⟨none, 0, by rw [e1, e2]⟩
  · exact ⟨_, _, e1⟩
theorem shp_mem {fs : Nat → Option FS} {l : Nat → Bool} : ∀ (n : Nat) {g : Fl}, g ∈ shp fs l n → ∃ k h, fs k = some h ∧ g = h.f
  | 0, g, hg => by cases hg
  | n + 1, g, hg => by
    rcases List.mem_append.1 (show g ∈ shp fs l n ++ _ from hg) with hg | hg
    · exact shp_mem n hg
    · split at hg
      · cases hg
      · cases hf : fs n with
        | none => rw [hf] at hg; cases hg
        | some h =>
          rw [hf] at hg
          exact ⟨n, h, hf, List.mem_singleton.1 hg⟩
theorem own_one {B : Nat} (w : World) (f : Fl) (hB : B ≤ w.heap.size) : (w.alloc (.cells #[.int .i64 f.s, .int .i64 f.p, .int .i64 f.b, .int .i64 f.r, .int .i64 f.d] 35)).ownsRow B 35 5 (.slice (some ⟨w.heap.size, 0, none⟩) 1 1) 1 (fcells [f]) :=
  ⟨rfl, .inr ⟨w.heap.size, 1, #[.int .i64 f.s, .int .i64 f.p, .int .i64 f.b, .int .i64 f.r, .int .i64 f.d], rfl, hB, heap_alloc_new w _, Nat.le_refl _, by unfold maxLen; omega, rfl, rfl⟩⟩
/-- What admit has gathered. -/
structure Gth (w : World) (s : PS) (N : Nat) (f : Fl) (r : Nat) (left : Nat → Bool) (v : Value) (l : List Fl) (wr : World) : Prop where
  bl : Below w.heap.size w wr
  ow : wr.ownsRow w.heap.size 35 5 v l.length (fcells l)
  ne : ∀ g, v.ownBlock = some g → g ≠ r
  rg : RangeF wr s.M r (adrs s.fs) left
  r0 : w.heap.size ≤ r
  pm : l.Perm (f :: shp s.fs left N)
set_option maxRecDepth 100000 in
set_option maxHeartbeats 8000000 in
theorem padmit_fit (w : World) (P : Nat) (s : PS) (h : PM w P s) (f : Fl) (hf : f.may) (N : Nat) (hN : ∀ k, N ≤ k → adrs s.fs k = none) (h6 : ((List.range N).countP fun k => (adrs s.fs k).isSome) < 6) (hm : ∀ k g, s.fs k = some g → g.f.may) :
    Calls Tryz.prog 113 #[.pointer (some ⟨s.Q, 0, none⟩), flA f] w fun e w' => e = .returned (fitV (f :: shp s.fs (fun _ => false) N)) ∧ Below w.heap.size w w' := by
  have HC := hide (fun W => check_ok f.s f.p f.b f.r f.d W hf)
  have HLen := hide (fun W (hW : Below w.heap.size w W) => (h.below hW).map.len hN 3)
  have HL6 := hide (show (shp s.fs (fun _ => false) N).length < 6 from by rw [shp_length]; exact h6)
  generalize ((List.range N).countP fun k => (adrs s.fs k).isSome) = n at *
  have HH := hide h
  have hn6 : (n : Int) < 6 := by omega
  obtain ⟨i0, hi0, hq0⟩ := Option.map_eq_some_iff.1 infoFlow
  simp only [Prod.mk.injEq] at hq0
  have HI0 := hide hi0
  have HZ0 := hide hq0.1
  have HZ1 := hide hq0.2.1
  have HZ2 := hide hq0.2.2
  clear hi0 hq0
  have HN0 := hide (Is.new w 35 #[.int .i64 f.s, .int .i64 f.p, .int .i64 f.b, .int .i64 f.r, .int .i64 f.d])
  have HM := hide hm
  have HN := hide hN
  have HFm := hide hf
  unfold flA
  clear h hf hN h6 hm
  go_enter Tryz.func113, Tryz.ntmps113
  go_wp2_with fail
  refine (unhide HC _).mono ?_
  rintro e w1 ⟨rfl, hb1⟩
  have hB := bel_then (bel_one (w := w) _) hb1
  have HB1 := hide hB
  have hlen := unhide HLen w1 hB
  have c1 := ((unhide HH).below hB).c1
  have hI := (unhide HN0).below hb1
  have q0 : w1.cell? ⟨w.heap.size, 0, none⟩ = some (.int .i64 f.s) := hI.cell (j := 0) rfl
  have q1 : w1.cell? ⟨w.heap.size, 1, none⟩ = some (.int .i64 f.p) := hI.cell (j := 1) rfl
  have q2 : w1.cell? ⟨w.heap.size, 2, none⟩ = some (.int .i64 f.b) := hI.cell (j := 2) rfl
  have q3 : w1.cell? ⟨w.heap.size, 3, none⟩ = some (.int .i64 f.r) := hI.cell (j := 3) rfl
  have q4 : w1.cell? ⟨w.heap.size, 4, none⟩ = some (.int .i64 f.d) := hI.cell (j := 4) rfl
  have hdn : decide ((6 : Int) ≤ (n : Int)) = false := by simp; omega
  have c1A := (World.cell?_alloc_past (w := w1) (.cells #[.int .i64 f.s, .int .i64 f.p, .int .i64 f.b, .int .i64 f.r, .int .i64 f.d] 35) s.Q 1 (World.block_lt_of_cell? _ _ c1)).trans c1
  have HBA := hide (bel_then hB (bel_one (w := w1) (.cells #[.int .i64 f.s, .int .i64 f.p, .int .i64 f.b, .int .i64 f.r, .int .i64 f.d] 35)))
  have HMp := hide ((unhide HH).below (unhide HBA)).map
  have HOw := hide (own_one w1 f hB.size)
  clear hb1 HC hB hI
  go_wp2_with (at_range; refine wpList_range_F _ rfl _ rfl rfl (unhide HMp) ?_; intro w0 hrg0 hb0 hs0)
  go_frame
  rw [World.size_alloc] at hrg0
  rw [World.size_alloc]
  have HL0 := hide (show Gth w s N f (w1.heap.size + 1) (fun k => (adrs s.fs k).isSome) (.slice (some ⟨w1.heap.size, 0, none⟩) 1 1) [f] w0 from
    ⟨bel_then (unhide HBA) hb0, ownsRow_below (unhide HOw) hb0, fun g hg => (by obtain rfl : w1.heap.size = g := Option.some.inj hg; omega), hrg0, by have := (unhide HB1).size; omega, by rw [shp_start]⟩)
  clear hrg0 hb0 hs0 c1 c1A HMp HOw HBA q0 q1 q2 q3 q4
  go_loopw [7] (fun v wr => ∃ left l, Gth w s N f (w1.heap.size + 1) left v l wr) (fun _ wr => wr.rangeLeft s.M (w1.heap.size + 1))
  case atStart => exact ⟨_, _, unhide HL0⟩
  case round =>
    obtain ⟨left, l, hL⟩ := hrel
    have HL := hide hL
    have HR := hide hL.rg
    clear hL
    go_wp2_with (at_next; refine wpList_next_F _ rfl _ rfl rfl (unhide HR) ?_ ?_)
    · intro hl0
      have hpm := (unhide HL).pm
      rw [shp_congr (m := fun _ => false) N (fun k _ => hl0 k)] at hpm
      have hll : l.length ≤ 6 := by
        have h1 := hpm.length_eq
        have h2 := unhide HL6
        rw [List.length_cons] at h1
        omega
      have hmy : ∀ g ∈ l, g.may := fun g hg => by
        rcases List.mem_cons.1 (hpm.mem_iff.1 hg) with rfl | hg
        · exact unhide HFm
        · obtain ⟨k, h, hk, rfl⟩ := shp_mem N hg
          exact unhide HM k h hk
      have HFit := hide (fit_any u7 l wr (Own.fls (unhide HL).ow) hll hmy)
      rw [show fitV l = fitV (f :: shp s.fs (fun _ => false) N) from by unfold fitV; rw [viol_perm hpm]] at HFit
      obtain ⟨E, HE⟩ : ∃ E, Hid (fitV (f :: shp s.fs (fun _ => false) N) = E) := ⟨_, hide rfl⟩
      rw [unhide HE] at HFit
      have HB := hide (unhide HL).bl
      obtain ⟨al, cl, hv⟩ := row_lenS (unhide HL).ow
      subst hv
      clear hl0 HR hpm hll hmy HL
      go_wp2_with fail
      refine (unhide HFit).mono ?_
      rintro e w2 ⟨rfl, hb2⟩
      have HB2 := hide (bel_then (unhide HB) hb2)
      clear hb2 HFit
      go_wp2_with fail
      go_ret
      exact ⟨ret_val (unhide HE).symm, unhide HB2⟩
    · intro k b w2 hlk hmk hR2 hlt hO2 hsz hent
      have hkN : k < N := by
        rcases Nat.lt_or_ge k N with c | c
        · exact c
        · rw [unhide HN k c] at hmk; cases hmk
      obtain ⟨g, hg, rfl⟩ : ∃ g, s.fs k = some g ∧ g.a = b := Option.map_eq_some_iff.1 hmk
      have hr0 := (unhide HL).r0
      have hbl := (unhide HL).bl
      have hb2 : Below w.heap.size w w2 := ⟨hO2.os.trans hbl.os, hO2.tape.trans hbl.tape, hO2.output.trans hbl.output, Nat.le_trans hbl.size hO2.size, fun j hj => (hO2.block j (Nat.lt_of_lt_of_le hj hbl.size) (fun c => by omega)).trans (hbl.block j hj)⟩
      have hfm := ((unhide HH).below hb2).fl k g hg
      obtain ⟨p0, p1, p2, p3, p4⟩ := hfm.shape
      have ho2 : w2.ownsRow w.heap.size 35 5 u7 l.length (fcells l) := ownsRow_only (unhide HL).ow hO2 (fun g' hg' e => (unhide HL).ne g' hg' e)
      have HPm := hide (show (l ++ [g.f]).Perm (f :: shp s.fs (fun j => left j && !decide (j = k)) N) from ((unhide HL).pm.append_right [g.f]).trans ((shp_strike hlk hg N hkN).symm.cons f))
      have hll : l.length ≤ 6 := by
        have h1 := (unhide HL).pm.length_eq
        have h2 := unhide HL6
        have h3 := shp_le (fs := s.fs) (l := left) N
        rw [List.length_cons] at h1
        omega
      have HNe := hide (unhide HL).ne
      obtain ⟨al, cl, hv⟩ := row_lenS ho2
      subst hv
      have HOw := hide ho2
      have HB2 := hide hb2
      have HR2 := hide hR2
      have HLt := hide hlt
      have hab := hfm.blk.lt
      have cA : ∀ (j : Nat) (ob : Obj), (w2.alloc ob).cell? ⟨g.a, j, none⟩ = w2.cell? ⟨g.a, j, none⟩ := fun j ob => World.cell?_alloc_past ob g.a j hab
      clear hlk hmk hR2 hlt hO2 hbl hb2 hfm ho2 HL HR hg hkN hsz
      have hsz2 : w.heap.size ≤ w2.heap.size := (unhide HB2).size
      go_wp2_with (at_builtin; refine wpList_append_lies _ (by rfl) _ _ 37 (by rfl) w.heap.size 35 i0 _ 5 40 Tryz.underlying37 (unhide HI0) (unhide HZ0) (unhide HZ1) (unhide HZ2) rfl (by omega) _ l.length (fcells l) (by rfl) ((unhide HOw).alloc _) ⟨w2.heap.size, 0, none⟩ 1 1 [.int .i64 g.f.s, .int .i64 g.f.p, .int .i64 g.f.b, .int .i64 g.f.r, .int .i64 g.f.d] (by rfl) (by rfl) (World.news_of_block (cs := #[.int .i64 g.f.s, .int .i64 g.f.p, .int .i64 g.f.b, .int .i64 g.f.r, .int .i64 g.f.d]) (t := 35) (fr := (0, 0)) (heap_alloc_new w2 _)) (by simp [Value.oneCell']) (by omega) (by unfold maxLen; omega) (by omega) (by simp; omega) (w2.heap.size + 1) (by simp) ?_)
      intro g5 cap5 w3 hown hgrow hat hlt5
      have hX := own_push (w0 := w) (g := g.f) (show Own (w2.alloc (.cells #[.int .i64 g.f.s, .int .i64 g.f.p, .int .i64 g.f.b, .int .i64 g.f.r, .int .i64 g.f.d] 35)) w.heap.size _ l from (unhide HOw).alloc _) (bel_then (unhide HB2) (bel_one _)) hown hgrow
      have hO3 : Only (fun i => some i = (Value.slice al l.length cl).ownBlock) w2 w3 := (Only.of_below (bel_one _)).trans ⟨hgrow.os, hgrow.tape, hgrow.output, hgrow.size, fun k hk hn => hgrow.block k hk hn⟩ (fun _ _ e => e)
      have hne5 : ∀ q, (Value.slice (some ⟨g5, 0, none⟩) (l.length + 1) cap5).ownBlock = some q → q ≠ w1.heap.size + 1 := fun q hq e => by
        obtain rfl : g5 = q := Option.some.inj hq
        rcases hat with c | c
        · exact unhide HNe g5 c e
        · have := (unhide HR2).lt
          omega
      have hMl := (unhide HH).map.lt
      have hR3 := (unhide HR2).only hO3 (fun e => by have := (ownsRow_lt (unhide HOw) _ e.symm).1; omega) (fun e => unhide HNe _ e.symm rfl)
      have HX := hide (show Gth w s N f (w1.heap.size + 1) (fun j => left j && !decide (j = k)) (.slice (some ⟨g5, 0, none⟩) (l.length + 1) cap5) (l ++ [g.f]) w3 from
        ⟨hX.2, hX.1, hne5, hR3.1, hr0, unhide HPm⟩)
      have HLt3 := hide (show w3.rangeLeft s.M (w1.heap.size + 1) < wr.rangeLeft s.M (w1.heap.size + 1) from by rw [hR3.2]; exact unhide HLt)
      clear hown hgrow hat hlt5 hX hO3 hne5 hR3 HOw HNe HR2
      go_wp2_with fail
      exact ⟨⟨_, _, unhide HX⟩, unhide HLt3⟩
end Go.Proofs.YtcnmajndackohaaGreatDoor
/-
  What the program's Setup does.
-/
namespace Go.Proofs.YtcnmajndackohaaGreatDoor
open Go.RowKit
attribute [local go_sem ↓] Go.wp_at_zero Go.wp_at_succ
def stpQ : ByteArray := { data := #[83, 101, 116, 117, 112] }
set_option maxRecDepth 100000 in
set_option maxHeartbeats 4000000 in
theorem psetup_bad (w : World) (Q : Nat) (f : Fl) (b : Addr) (hadm : ∀ W, Below w.heap.size w W → Calls Tryz.prog 113 #[.pointer (some ⟨Q, 0, none⟩), flA f] W fun e w' => (∃ l, e = .returned (chn l b)) ∧ Below W.heap.size W w') :
    Calls Tryz.prog 86 #[.pointer (some ⟨Q, 0, none⟩), flA f] w fun e w' => (∃ l, e = .returned (.tuple #[.int .i64 0, chn l b])) ∧ Below w.heap.size w w' := by
  have HA := hide hadm
  unfold flA at HA ⊢
  clear hadm
  go_enter Tryz.func86, Tryz.ntmps86
  go_wp2_with fail
  refine (unhide HA _ (bel_one _)).mono ?_
  rintro e w1 ⟨⟨l, rfl⟩, hb1⟩
  have HB1 := hide (bel_then (bel_one _) hb1)
  have HIn := hide (in_chn stpQ l b)
  unfold stpQ at HIn
  obtain ⟨T, x, hx⟩ := chn_form l b
  obtain ⟨T2, x2, hx2⟩ := chn_form ({ data := #[83, 101, 116, 117, 112] } :: l) b
  have HX2 := hide hx2
  rw [hx2, hx] at HIn
  rw [hx]
  clear hb1 HA hx hx2
  go_wp2_with fail
  refine (unhide HIn _).mono ?_
  rintro e w2 ⟨rfl, rfl⟩
  clear HIn
  go_wp2_with fail
  go_ret2
  exact ⟨⟨_, by rw [unhide HX2]; rfl⟩, unhide HB1⟩
set_option maxRecDepth 100000 in
set_option maxHeartbeats 4000000 in
theorem psetup_late (w : World) (Q : Nat) (f : Fl) (t : Int) (hadm : ∀ W, Below w.heap.size w W → Calls Tryz.prog 113 #[.pointer (some ⟨Q, 0, none⟩), flA f] W fun e w' => e = .returned (vio t) ∧ Below W.heap.size W w') :
    Calls Tryz.prog 86 #[.pointer (some ⟨Q, 0, none⟩), flA f] w fun e w' => e = .returned (.tuple #[.int .i64 0, plc stpQ (vio t)]) ∧ Below w.heap.size w w' := by
  have HA := hide hadm
  unfold flA at HA ⊢
  unfold vio at HA
  clear hadm
  go_enter Tryz.func86, Tryz.ntmps86
  go_wp2_with fail
  refine (unhide HA _ (bel_one _)).mono ?_
  rintro e w1 ⟨rfl, hb1⟩
  have HB1 := hide (bel_then (bel_one _) hb1)
  clear hb1 HA
  go_wp2_with fail
  refine (in_some _ _ _ _).mono ?_
  rintro e w2 ⟨rfl, rfl⟩
  unfold plc
  go_wp2_with fail
  go_ret2
  exact ⟨rfl, unhide HB1⟩
set_option maxRecDepth 100000 in
set_option maxHeartbeats 4000000 in
theorem psetup_ok (w : World) (P : Nat) (s : PS) (h : PM w P s) (f : Fl) (hf : f.may) (hN : ∀ k, s.num ≤ k → s.fs k = none) (hn : s.num ≤ 1500000) (hadm : ∀ W, Below w.heap.size w W → Calls Tryz.prog 113 #[.pointer (some ⟨s.Q, 0, none⟩), flA f] W fun e w' => e = .returned .nilIface ∧ Below W.heap.size W w') :
    Calls Tryz.prog 86 #[.pointer (some ⟨s.Q, 0, none⟩), flA f] w fun e w' => e = .returned (.tuple #[.int .i64 (s.num : Int), .nilIface]) ∧ ∃ a o', PTo w P s w' { s with fs := upd s.fs s.num (FS.fresh a f), num := s.num + 1, o := o' } := by
  have HA := hide hadm
  have HAd := hide (fun W (hW : Below w.heap.size w W) => padd W P s (h.below hW) f hf hN (by omega))
  have HH := hide h
  have HN0 := hide (Is.new w 35 #[.int .i64 f.s, .int .i64 f.p, .int .i64 f.b, .int .i64 f.r, .int .i64 f.d])
  unfold flA at HA ⊢
  unfold flV at HAd
  clear hadm h hf hN
  go_enter Tryz.func86, Tryz.ntmps86
  go_wp2_with fail
  refine (unhide HA _ (bel_one _)).mono ?_
  rintro e w1 ⟨rfl, hb1⟩
  have hB := bel_then (bel_one (w := w) _) hb1
  have HB1 := hide hB
  have HAd1 := hide (unhide HAd w1 hB)
  have hI := (unhide HN0).below hb1
  have q0 : w1.cell? ⟨w.heap.size, 0, none⟩ = some (.int .i64 f.s) := hI.cell (j := 0) rfl
  have q1 : w1.cell? ⟨w.heap.size, 1, none⟩ = some (.int .i64 f.p) := hI.cell (j := 1) rfl
  have q2 : w1.cell? ⟨w.heap.size, 2, none⟩ = some (.int .i64 f.b) := hI.cell (j := 2) rfl
  have q3 : w1.cell? ⟨w.heap.size, 3, none⟩ = some (.int .i64 f.r) := hI.cell (j := 3) rfl
  have q4 : w1.cell? ⟨w.heap.size, 4, none⟩ = some (.int .i64 f.d) := hI.cell (j := 4) rfl
  clear hb1 HA hB hI HAd HN0
  go_wp2_with fail
  refine (unhide HAd1).mono ?_
  rintro e w2 ⟨rfl, a2, o2, hT2⟩
  have HT2 := hide (((PTo.refl (unhide HH)).below (unhide HB1)).trans hT2)
  clear hT2 HAd1 q0 q1 q2 q3 q4
  go_wp2_with fail
  go_ret2
  exact ⟨rfl, a2, o2, unhide HT2⟩
section
variable {w : World} {P Q : Nat} {A B : Value → World → Prop} {T : World → Prop} {n v z : Int} {S0 : Nat → Prop}
set_option maxRecDepth 100000 in
set_option maxHeartbeats 4000000 in
theorem wsetup (f : Fl) (hi : Is w P 88 #[.pointer (some ⟨Q, 0, none⟩)]) (hS0 : ∀ i, S0 i → i < w.heap.size ∧ i ≠ P) (hin : ∀ W, Below w.heap.size w W → Calls Tryz.prog 86 #[.pointer (some ⟨Q, 0, none⟩), flA f] W fun e w' => ∃ E, e = .returned (.tuple #[.int .i64 n, E]) ∧ A E w' ∧ Only S0 W w')
    (hvi : ∀ E W, A E W → Calls Tryz.prog 27 #[E] W fun e w' => e = .returned (.int .i64 v) ∧ B E w')
    (hout : ∀ E W, B E W → Calls Tryz.prog 28 #[E] W fun e w' => e = .returned (.int .i64 z) ∧ T w') :
    Calls Tryz.prog 56 #[.pointer (some ⟨P, 0, none⟩), flA f] w fun e w' => e = .returned (.tuple #[.int .i64 n, .int .i64 v, .int .i64 z]) ∧ T w' := by
  have H1 := hide hin
  have H2 := hide hvi
  have H3 := hide hout
  have HSO := hide (show ∀ w', Only S0 (w.alloc (.cells #[.int .i64 f.s, .int .i64 f.p, .int .i64 f.b, .int .i64 f.r, .int .i64 f.d] 35)) w' → (fun w' : World => w'.cell? ⟨P, 0, none⟩ = some (.pointer (some ⟨Q, 0, none⟩)) ∧ w'.cell? ⟨w.heap.size, 0, none⟩ = some (.int .i64 f.s) ∧ w'.cell? ⟨w.heap.size, 1, none⟩ = some (.int .i64 f.p) ∧ w'.cell? ⟨w.heap.size, 2, none⟩ = some (.int .i64 f.b) ∧ w'.cell? ⟨w.heap.size, 3, none⟩ = some (.int .i64 f.r) ∧ w'.cell? ⟨w.heap.size, 4, none⟩ = some (.int .i64 f.d)) w' from fun w' ho => by
    have h1 := (hi.alloc (.cells #[.int .i64 f.s, .int .i64 f.p, .int .i64 f.b, .int .i64 f.r, .int .i64 f.d] 35)).only ho (fun c => (hS0 _ c).2 rfl)
    have h2 := (Is.new w 35 #[.int .i64 f.s, .int .i64 f.p, .int .i64 f.b, .int .i64 f.r, .int .i64 f.d]).only ho (fun c => by have := (hS0 _ c).1; omega)
    exact ⟨h1.cell (j := 0) rfl, h2.cell (j := 0) rfl, h2.cell (j := 1) rfl, h2.cell (j := 2) rfl, h2.cell (j := 3) rfl, h2.cell (j := 4) rfl⟩)
  unfold flA at H1 ⊢
  clear hin hvi hout hi hS0
  go_enter Tryz.func56, Tryz.ntmps56
  go_wp2_with fail
  go_region_held3 (fun w' : World => w'.cell? ⟨P, 0, none⟩ = some (.pointer (some ⟨Q, 0, none⟩)) ∧ w'.cell? ⟨w.heap.size, 0, none⟩ = some (.int .i64 f.s) ∧ w'.cell? ⟨w.heap.size, 1, none⟩ = some (.int .i64 f.p) ∧ w'.cell? ⟨w.heap.size, 2, none⟩ = some (.int .i64 f.b) ∧ w'.cell? ⟨w.heap.size, 3, none⟩ = some (.int .i64 f.r) ∧ w'.cell? ⟨w.heap.size, 4, none⟩ = some (.int .i64 f.d))
    (first | exact unhide HSO _ (Only.of_below (Below.refl _ _).drew) | exact unhide HSO _ (by assumption))
    (first | (go_at_call 86; refine (unhide H1 _ (bel_one _).drew).mono ?_; rintro e w1 ⟨E, rfl, hA, hO⟩; have hO1 := (Only.of_below (S := S0) (Below.refl _ (w.alloc (.cells #[.int .i64 f.s, .int .i64 f.p, .int .i64 f.b, .int .i64 f.r, .int .i64 f.d] 35))).drew).trans hO (fun _ _ h => h)))
  all_goals
    have H4 := hide (unhide H2 E w1 hA)
    clear hA hO hO1
    go_wp2_with fail
    refine (unhide H4).mono ?_
    rintro e w2 ⟨rfl, hB⟩
    have H5 := hide (unhide H3 E w2 hB)
    clear hB H4
    go_wp2_with fail
    refine (unhide H5).mono ?_
    rintro e w3 ⟨rfl, hT⟩
    have HT := hide hT
    clear hT H5
    go_wp2_with fail
    go_ret3
    exact ⟨rfl, unhide HT⟩
end
end Go.Proofs.YtcnmajndackohaaGreatDoor
/-
  Plain: what holds of a line behind n steps.
-/
namespace Go.Proofs.YtcnmajndackohaaGreatDoor
/-- What holds of a line behind n steps. -/
structure Stn (x : Ln) (n : Nat) : Prop where
  lnv : Lnv x
  sml : Sml x n
  nd : x.began.Nodup
  flw : Flw x
  fl : x.fl.length ≤ 6 + n
theorem stn_new {l : List Fl} (h : ∀ f ∈ l, f.may) (h6 : l.length ≤ 6) : Stn (Ln.new l) 0 :=
  ⟨lnv_new h, sml_new l, List.nodup_nil, (fun p hp => by cases hp), by show (l.map _).length ≤ 6 + 0; rw [List.length_map]; exact h6⟩
section
variable {x : Ln} {n : Nat}
theorem Stn.mono {m : Nat} (h : Stn x n) (hm : n ≤ m) : Stn x m := ⟨h.lnv, h.sml.mono hm, h.nd, h.flw, by have := h.fl; omega⟩
theorem Stn.bg (h : Stn x n) : x.began.length ≤ n := by have := nd_len h.lnv h.nd; have := h.sml.pk; omega
theorem Stn.lbd (h : Stn x n) (hn : n ≤ 2000000) : Lbd x :=
  lbd_ticks h.lnv h.sml hn (by have := h.bg; omega) (by have := h.fl; omega) 0 (by decide)
theorem send_same (x : Ln) (k s : Int) : (x.send k s).2.fl = x.fl ∧ (x.send k s).2.began = x.began := send_cases (P := fun y => y.fl = x.fl ∧ y.began = x.began) ⟨rfl, rfl⟩ fun _ _ _ _ => ⟨rfl, rfl⟩
theorem Stn.send (h : Stn x n) (k s : Int) : Stn (x.send k s).2 (n + 1) := by
  obtain ⟨e1, e2⟩ := send_same x k s
  exact ⟨h.lnv.send k s, h.sml.send k s, by rw [e2]; exact h.nd, flw_send h.flw h.lnv.n0 k s, by rw [e1]; have := h.fl; omega⟩
theorem other_same (x : Ln) (s : Int) : (x.other s).2.fl = x.fl ∧ (x.other s).2.began = x.began := other_cases (P := fun y => y.fl = x.fl ∧ y.began = x.began) ⟨rfl, rfl⟩ fun _ => ⟨rfl, rfl⟩
theorem Stn.other (h : Stn x n) (s : Int) : Stn (x.other s).2 (n + 1) := by
  obtain ⟨e1, e2⟩ := other_same x s
  exact ⟨h.lnv.other s, h.sml.other s, by rw [e2]; exact h.nd, flw_other h.flw h.lnv.n0 s, by rw [e1]; have := h.fl; omega⟩
theorem ticks_len (n : Nat) (x : Ln) : (x.ticks n).fl.length = x.fl.length := by
  have := congrArg List.length (ticks_fl n x)
  rwa [List.length_map, List.length_map] at this
theorem Stn.run (h : Stn x n) (t : Int) : Stn (x.run t).2 (n + 1) := by
  refine ⟨h.lnv.run t, h.sml.run t, ?_, flw_run h.flw t, ?_⟩
  · unfold Ln.run
    split
    · exact h.nd
    · exact nd_ticks _ h.lnv h.nd
  · have := h.fl
    unfold Ln.run
    split
    · show x.fl.length ≤ _; omega
    · show (x.ticks _).fl.length ≤ _
      rw [ticks_len]; omega
theorem Stn.gone (h : Stn x n) : Stn x.gone.2 (n + 1) := ⟨h.lnv.gone, h.sml.gone.mono (Nat.le_succ _), h.nd, flw_gone h.flw, by show x.fl.length ≤ _; have := h.fl; omega⟩
theorem Stn.setup (h : Stn x n) (f : Fl) : Stn (x.setup f).2 (n + 1) := by
  have e : Sml (x.setup f).2 n ∧ (x.setup f).2.began = x.began ∧ Flw (x.setup f).2 ∧ (x.setup f).2.fl.length ≤ x.fl.length + 1 :=
    setup_cases (P := fun y => Sml y n ∧ y.began = x.began ∧ Flw y ∧ y.fl.length ≤ x.fl.length + 1) ⟨h.sml, rfl, h.flw, Nat.le_succ _⟩ fun _ _ =>
      ⟨⟨h.sml.now, h.sml.pk, h.sml.rd, h.sml.bg⟩, rfl, h.flw, by show (x.fl ++ [_]).length ≤ _; rw [List.length_append]; exact Nat.le_refl _⟩
  obtain ⟨e1, e2, e3, e4⟩ := e
  exact ⟨h.lnv.setup f, e1.mono (Nat.le_succ _), by rw [e2]; exact h.nd, e3, by have := h.fl; omega⟩
theorem Stn.teardown (h : Stn x n) (k : Int) : Stn (x.teardown k).2 (n + 1) := by
  have e : (x.teardown k).2.began = x.began ∧ (x.teardown k).2.pk.map Pk.sk = x.pk.map Pk.sk ∧ (x.teardown k).2.fl.length = x.fl.length := by
    refine teardown_cases (P := fun y => y.began = x.began ∧ y.pk.map Pk.sk = x.pk.map Pk.sk ∧ y.fl.length = x.fl.length) ⟨rfl, rfl, rfl⟩ fun st _ _ => ?_
    obtain ⟨e1, e2, e3⟩ := away_same { x with fl := x.fl.set k.toNat ⟨st.f, 1⟩, pk := x.pk.map (drp x.now k) }
    refine ⟨e3, by rw [e2]; exact drp_sks _ _ _, ?_⟩
    unfold Ln.away
    split
    · show (x.fl.set _ _).length = _; rw [List.length_set]
    · show ((x.fl.set _ _).map _).length = _; rw [List.length_map, List.length_set]
  obtain ⟨e1, e2, e3⟩ := e
  exact ⟨h.lnv.teardown k, (h.sml.teardown k).mono (Nat.le_succ _), by rw [e1]; exact h.nd, flw_sk h.flw e2, by rw [e3]; have := h.fl; omega⟩
theorem goneL_len (now : Int) : ∀ (l : List Nat) (pk : List Pk), (goneL now l pk).1.length ≤ l.length
  | [], _ => Nat.le_refl _
  | i :: l, pk => by
    unfold goneL
    split
    · exact Nat.le_succ_of_le (goneL_len now l pk)
    · split
      · exact Nat.succ_le_succ (goneL_len now l _)
      · exact Nat.le_succ_of_le (goneL_len now l pk)
theorem Stn.told (h : Stn x n) : x.gone.1.length ≤ n := Nat.le_trans (goneL_len x.now x.began x.pk) h.bg
theorem ids_len (x : Ln) (is : Int) : (x.ids is).length ≤ x.fl.length := by
  unfold Ln.ids
  exact Nat.le_trans (List.length_filter_le _ _) (by rw [List.length_range]; exact Nat.le_refl _)
end
end Go.Proofs.YtcnmajndackohaaGreatDoor
/-
  The program's New, with flows that may not be.
-/
namespace Go.Proofs.YtcnmajndackohaaGreatDoor
open Go.RowKit
attribute [local go_sem ↓] Go.wp_at_zero Go.wp_at_succ
set_option maxRecDepth 100000 in
set_option maxHeartbeats 4000000 in
theorem lnew_bad (v : Value) (l : List Fl) (a0 a1 : Addr) (w : World) (hg : GlT w a0 a1) (hw : Fls w v l) (hl : l.length ≤ maxLen) (ha : allB l = false) :
    Calls Tryz.prog 53 #[v] w fun e w' => (∃ q, e = .returned (.tuple #[.pointer none, chn q a0])) ∧ Below w.heap.size w w' := by
  have HC := hide (checkAll_G v l a0 a1 w hg hw hl ha)
  clear hg hw hl ha
  go_enter Tryz.func53, Tryz.ntmps53
  go_wp2_with fail
  refine (unhide HC).mono ?_
  rintro e w1 ⟨⟨q, rfl⟩, hb⟩
  have HB := hide hb
  clear hb HC
  have HX := hide (fun q' => in_chn q' q a0)
  obtain ⟨T, x, hx⟩ := chn_form q a0
  rw [hx] at HX ⊢
  clear hx
  go_wp2_with fail
  refine (unhide HX _ _).mono ?_
  rintro e w2 ⟨rfl, rfl⟩
  generalize hE : chn (_ :: q) a0 = E
  have HE := hide hE
  clear hE HX
  go_wp2_with fail
  go_ret2
  exact ⟨⟨_, ret_val (by rw [← unhide HE]; rfl)⟩, unhide HB⟩
set_option maxRecDepth 100000 in
set_option maxHeartbeats 4000000 in
theorem pnew_bad (v : Value) (l : List Fl) (a0 a1 : Addr) (w : World) (hg : GlT w a0 a1) (hw : Fls w v l) (hl : l.length ≤ maxLen) (ha : allB l = false) :
    Calls Tryz.prog 32 #[v] w fun e w' => e = .returned (.tuple #[.pointer none, .int .i64 1]) ∧ Below w.heap.size w w' := by
  have HN := hide (lnew_bad v l a0 a1 w hg hw hl ha)
  have HG := hide hg
  clear hg hw hl ha
  go_enter Tryz.func32, Tryz.ntmps32
  go_wp2_with fail
  refine (unhide HN).mono ?_
  rintro e w1 ⟨⟨q, rfl⟩, hb⟩
  have HB := hide hb
  clear hb HN
  have HX := hide (fun W (h : Gl W a0 a1) => errno_arg q a0 a1 W h)
  obtain ⟨T, x, hx⟩ := chn_form q a0
  rw [hx] at HX ⊢
  clear hx
  go_wp2_with fail
  refine (unhide HX _ ((unhide HG).toGl.below (unhide HB))).mono ?_
  rintro e w3 ⟨rfl, hb3⟩
  have HB3 := hide (bel_then (unhide HB) hb3)
  clear hb3 HX
  go_wp2_with fail
  go_ret2
  exact ⟨rfl, unhide HB3⟩
end Go.Proofs.YtcnmajndackohaaGreatDoor
