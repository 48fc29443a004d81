import Derived.Test.YtcnmajndackohaaGreatDoorMg49
import Derived.Test.YtcnmajndackohaaGreatDoorMg47
import Derived.Test.YtcnmajndackohaaGreatDoorMg36
/-
  What the law's step does: every answer is the document's.
-/
namespace Go.Proofs.YtcnmajndackohaaGreatDoor
open Go.RowKit
attribute [local go_sem ↓] Go.wp_at_zero Go.wp_at_succ
/-- How a call of a line ends. -/
def Fin (W w' : World) (B : Nat) (vv : Value × Value) (ps qs : List Nat) (xs : List Ln) (k P Q n : Nat) (g i : Nat) (L0 : List Lse) : Prop :=
  ∃ (x' : Ln) (gl' : List Value) (gm' : List Int) (il' : List Value) (im' : List Int), Wk W w' B vv ps qs xs k P Q x' x' gl' gm' il' im' L0 ∧ Stn x' (n + 1) ∧ gl'.length = gm'.length ∧ gl'.length ≤ g + 4 ∧ il'.length = im'.length ∧ il'.length ≤ i + 8
theorem calls_any {W w : World} {B : Nat} {vv : Value × Value} {L0 : List Lse} {ps qs : List Nat} {xs : List Ln} {k P Q n : Nat} {x : Ln} {gl : List Value} {gm : List Int} {il : List Value} {im : List Int} {a : Nat → Addr} {a0 a1 : Addr} (hg : GlA W a a0 a1) (h : Wk W w B vv ps qs xs k P Q x x gl gm il im L0) (hs : Stn x n) (hn : n ≤ 1100000) (hlg : gl.length = gm.length) (hli : il.length = im.length) (hg9 : gl.length ≤ 900000000) (hi9 : il.length ≤ 900000000) (q : Opd) (hq : q.raw) (h4 : 4 ≤ q.kind) (h10 : q.kind ≤ 10) :
    Calls Tryz.prog 52 #[.pointer (some ⟨B, 0, none⟩), .pointer (some ⟨P, 0, none⟩), .pointer (some ⟨Q, 0, none⟩), .agg q.cells.toArray] w fun e w' => e = .returned (.bool true) ∧ Fin W w' B vv ps qs xs k P Q n gl.length il.length L0 := by
  have hc : q.kind = 4 ∨ q.kind = 5 ∨ q.kind = 6 ∨ q.kind = 7 ∨ q.kind = 8 ∨ q.kind = 9 ∨ q.kind = 10 := by omega
  rcases hc with c | c | c | c | c | c | c
  · exact (call_send hg h hs hn q hq c).mono fun e w' ⟨e1, e2⟩ => ⟨e1, _, gl, gm, il, im, e2, hs.send _ _, hlg, by omega, hli, by omega⟩
  · exact (call_other hg h hs hn q hq c).mono fun e w' ⟨e1, e2⟩ => ⟨e1, _, gl, gm, il, im, e2, hs.other _, hlg, by omega, hli, by omega⟩
  · exact (call_run hg h hs hn q hq c).mono fun e w' ⟨e1, e2⟩ => ⟨e1, _, gl, gm, il, im, e2, hs.run _, hlg, by omega, hli, by omega⟩
  · exact (call_gone hg h hs hn q hlg hli (by omega) c).mono fun e w' ⟨e1, gl', gm', e2, e3, e4⟩ => ⟨e1, _, gl', gm', il, im, e2, hs.gone, by omega, by omega, hli, by omega⟩
  · exact (call_look hg h hs hn q hlg hli (by omega) c).mono fun e w' ⟨e1, il', im', e2, e3, e4⟩ => ⟨e1, _, gl, gm, il', im', e2, hs.mono (Nat.le_succ _), hlg, by omega, by omega, by omega⟩
  · exact (call_setup hg h hs hn q c).mono fun e w' ⟨e1, e2⟩ => ⟨e1, _, gl, gm, il, im, e2, hs.setup _, hlg, by omega, hli, by omega⟩
  · exact (call_teardown hg h hs hn q hq c).mono fun e w' ⟨e1, e2⟩ => ⟨e1, _, gl, gm, il, im, e2, hs.teardown _, hlg, by omega, hli, by omega⟩
section
variable {W w : World} {B n m : Nat} {vv : Value × Value} {ps qs : List Nat} {xs : List Ln} {k P Q : Nat} {x y : Ln} {gl : List Value} {gm : List Int} {il : List Value} {im : List Int} {L : List Lse}
theorem ptrs_at {l : List Nat} {p : Nat} (h : l[k]? = some p) : (ptrs l)[k]? = some (.pointer (some ⟨p, 0, none⟩)) := by unfold ptrs; rw [List.getElem?_map, h]; rfl
theorem ptrs_len (l : List Nat) : (ptrs l).length = l.length := by unfold ptrs; rw [List.length_map]
/-- Where the two lists of lines lie. -/
theorem Wk.lie (h : Wk W w B vv ps qs xs k P Q x y gl gm il im L) (hp : ps.length = m) (hq : qs.length = m) (hk : k < m) : ∃ g0 c0 g1 c1, vv = (.slice (some ⟨g0, 0, none⟩) m c0, .slice (some ⟨g1, 0, none⟩) m c1) := by
  obtain ⟨o, vs, hvv, h1, hm, h2, h3, h4, h5, h6, h7⟩ := h
  obtain ⟨g0, c0, e0, _⟩ := h1.at 0 (by decide) (i := k) (ptrs_at (List.getElem?_eq_getElem (by rw [hp]; exact hk)))
  obtain ⟨g1, c1, e1, _⟩ := h1.at 1 (by decide) (i := k) (ptrs_at (List.getElem?_eq_getElem (by rw [hq]; exact hk)))
  refine ⟨g0, c0, g1, c1, ?_⟩
  have e0' : vs 0 = .slice (some ⟨g0, 0, none⟩) (ptrs ps).length c0 := e0
  have e1' : vs 1 = .slice (some ⟨g1, 0, none⟩) (ptrs qs).length c1 := e1
  rw [ptrs_len, hp] at e0'
  rw [ptrs_len, hq] at e1'
  rw [← e0', ← e1', hvv.1, hvv.2]
theorem Wk.read {g0 c0 g1 c1 : Nat} (h : Wk W w B (.slice (some ⟨g0, 0, none⟩) m c0, .slice (some ⟨g1, 0, none⟩) m c1) ps qs xs k P Q x y gl gm il im L) (e1 : ps[k]? = some P) (e2 : qs[k]? = some Q) :
    w.cell? ⟨B, 0, none⟩ = some (.slice (some ⟨g0, 0, none⟩) m c0) ∧ w.cell? ⟨B, 1, none⟩ = some (.slice (some ⟨g1, 0, none⟩) m c1) ∧ w.cell? ⟨g0, k, none⟩ = some (.pointer (some ⟨P, 0, none⟩)) ∧ w.cell? ⟨g1, k, none⟩ = some (.pointer (some ⟨Q, 0, none⟩)) := by
  obtain ⟨o, vs, hvv, h1, hm, h2, h3, h4, h5, h6, h7⟩ := h
  have v0 : vs 0 = .slice (some ⟨g0, 0, none⟩) m c0 := hvv.1
  have v1 : vs 1 = .slice (some ⟨g1, 0, none⟩) m c1 := hvv.2
  obtain ⟨a0, b0, f0, _, r0⟩ := h1.at 0 (by decide) (i := k) (ptrs_at e1)
  obtain ⟨a1, b1, f1, _, r1⟩ := h1.at 1 (by decide) (i := k) (ptrs_at e2)
  rw [v0] at f0
  rw [v1] at f1
  simp only [Value.slice.injEq, Option.some.injEq, Addr.mk.injEq] at f0 f1
  refine ⟨by rw [← v0]; exact h1.blk.cell (j := 0) rfl, by rw [← v1]; exact h1.blk.cell (j := 1) rfl, by rw [f0.1.1]; exact r0, by rw [f1.1.1]; exact r1⟩
theorem WI.ls (h : WI W w B n m) : ∃ a c, w.cell? ⟨B, 0, none⟩ = some (.slice a m c) := by
  obtain ⟨ps, qs, xs, gl, gm, il, im, o, vs, hF, h1, hm, h2, h6, h7⟩ := h
  obtain ⟨a, c, e⟩ := h1.len 0 (by decide)
  have e' : vs 0 = .slice a (ptrs ps).length c := e
  rw [ptrs_len, hF.p] at e'
  exact ⟨a, c, by rw [← e']; exact h1.blk.cell (j := 0) rfl⟩
end
set_option maxRecDepth 100000 in
set_option maxHeartbeats 4000000 in
theorem lpick_any (c : Int) (n : Nat) (hn : 0 < n) (hn9 : n ≤ 1000000000) (h0 : -9223372036854775808 ≤ c) (h1 : c ≤ 9223372036854775807) (w : World) :
    Calls Tryz.prog 51 #[.int .i64 c, .int .i64 (n : Int)] w fun e w' => ∃ k : Nat, k < n ∧ e = .returned (.int .i64 (k : Int)) ∧ w' = w := by
  have hni : (0 : Int) < (n : Int) := by omega
  have hn9' : (n : Int) ≤ 1000000000 := by omega
  go_enter Tryz.func51, Tryz.ntmps51
  by_cases hc : c < 0
  · have hw1 : IntKind.i64.wrap (c + 1) = c + 1 := by go_arith
    have hw2 : IntKind.i64.wrap (-(c + 1)) = -(c + 1) := by go_arith
    go_wp2_with fail
    have e1 : -(c + 1).tmod (n : Int) = (-(c + 1)) % (n : Int) := by rw [← Int.neg_tmod, Int.tmod_eq_emod_of_nonneg (by omega)]
    have e2 := Int.emod_nonneg (-(c + 1)) (show (n : Int) ≠ 0 by omega)
    have e3 := Int.emod_lt_of_pos (-(c + 1)) hni
    rw [e1]
    generalize (-(c + 1)) % (n : Int) = r at *
    go_ret
    exact ⟨r.toNat, by omega, ret_int (by omega), rfl⟩
  · have e2 := Int.emod_nonneg c (show (n : Int) ≠ 0 by omega)
    have e3 := Int.emod_lt_of_pos c hni
    go_wp2_with fail
    generalize c % (n : Int) = r at *
    go_ret
    exact ⟨r.toNat, by omega, ret_int (by omega), rfl⟩
/-- A step whose kind is none that is played: nothing. -/
def Opd.idle (q : Opd) (m : Nat) : Prop := m = 0 ∨ q.kind < 1 ∨ 10 < q.kind
set_option maxRecDepth 100000 in
set_option maxHeartbeats 4000000 in
theorem step_idle {W w : World} {B n m : Nat} {a : Nat → Addr} {a0 a1 : Addr} (hg : GlA W a a0 a1) (h : WI W w B n m) (q : Opd) (h1 : q.kind ≠ 1) (h2 : q.kind ≠ 2) (h3 : q.kind ≠ 3) (hi : q.idle m) :
    Calls Tryz.prog 29 #[.pointer (some ⟨B, 0, none⟩), .agg q.cells.toArray] w fun e w' => e = .returned (.bool true) ∧ WI W w' B n m := by
  obtain ⟨kd, qa, qb, wh, f, lv, l⟩ := q
  have k1 : (kd == 1) = false := by simpa using h1
  have k2 : (kd == 2) = false := by simpa using h2
  have k3 : (kd == 3) = false := by simpa using h3
  obtain ⟨la, lc, c0⟩ := h.ls
  have hi' : m = 0 ∨ kd < 1 ∨ 10 < kd := hi
  have hBl := World.block_lt_of_cell? _ _ c0
  have HH := hide (fun (ob : Obj) => h.below hg (bel_one ob))
  have hmi : 0 ≤ (m : Int) := Int.natCast_nonneg _
  clear h h1 h2 h3 hi hg
  unfold Opd.cells
  have c1 : ∀ ob : Obj, (w.alloc ob).cell? ⟨B, 0, none⟩ = some (.slice la m lc) := fun ob => (World.cell?_alloc_past ob B 0 hBl).trans c0
  go_enter Tryz.func29, Tryz.ntmps29
  by_cases hm : m = 0
  · subst hm
    go_wp2_with fail
    go_ret
    exact ⟨rfl, unhide HH _⟩
  · have hm' : ((m : Int) == 0) = false := by simp; omega
    by_cases hlo : kd < 1
    · go_wp2_with fail
      go_ret
      exact ⟨rfl, unhide HH _⟩
    · have hhi : 10 < kd := by omega
      go_wp2_with fail
      go_ret
      exact ⟨rfl, unhide HH _⟩
set_option maxRecDepth 100000 in
set_option maxHeartbeats 4000000 in
theorem step_flows {W w : World} {B n m : Nat} {a : Nat → Addr} {a0 a1 : Addr} (hg : GlA W a a0 a1) (h : WI W w B n m) (q : Opd) (hk : q.kind = 1 ∨ q.kind = 2) (hfl : Fls W q.lv q.l) (hl : q.l.length * 40 ≤ 140737488351232) :
    Calls Tryz.prog 29 #[.pointer (some ⟨B, 0, none⟩), .agg q.cells.toArray] w fun e w' => e = .returned (.bool true) ∧ WI W w' B n m := by
  have HF := hide (fun (ob : Obj) => flows_any q a0 a1 (w.alloc ob) ((hg.below h.bel).below (bel_one ob)).g hk ((hfl.below h.bel).below (bel_one ob)) hl)
  have HH := hide (fun (w' : World) (hb : Below w.heap.size w w') => h.below hg hb)
  obtain ⟨kd, qa, qb, wh, f, lv, l⟩ := q
  have hk' : kd = 1 ∨ kd = 2 := hk
  clear h hg hk hfl hl
  unfold Opd.cells at *
  go_enter Tryz.func29, Tryz.ntmps29
  rcases hk' with rfl | rfl
  · go_wp2_with fail
    refine (unhide HF _).mono ?_
    rintro e w1 ⟨rfl, hb⟩
    have HB := hide (unhide HH w1 (bel_then (bel_one _) hb))
    clear hb HF HH
    go_wp2_with fail
    go_ret
    exact ⟨rfl, unhide HB⟩
  · go_wp2_with fail
    refine (unhide HF _).mono ?_
    rintro e w1 ⟨rfl, hb⟩
    have HB := hide (unhide HH w1 (bel_then (bel_one _) hb))
    clear hb HF HH
    go_wp2_with fail
    go_ret
    exact ⟨rfl, unhide HB⟩
theorem news_any {W w : World} {B n n' m : Nat} {a : Nat → Addr} {a0 a1 : Addr} (hg : GlA W a a0 a1) (h : WI W w B n m) (v : Value) (l : List Fl) (hv : Fls w v l) (hl : l.length * 40 ≤ 140737488351232) (hn : n ≤ n') (hm : m + 1 ≤ n' + 2) (hn9 : n' ≤ 1100000) :
    Calls Tryz.prog 13 #[.pointer (some ⟨B, 0, none⟩), v] w fun e w' => e = .returned (.bool true) ∧ ∃ m', m' ≤ m + 1 ∧ WI W w' B n' m' := by
  cases ha : allB l
  · exact (news_bad hg h v l hv hl ha).mono fun e w' ⟨e1, e2⟩ => ⟨e1, m, Nat.le_succ _, e2.mono hn⟩
  · exact (news_good hg h v l hv hl ha hn hm hn9).mono fun e w' ⟨e1, e2⟩ => ⟨e1, m + 1, Nat.le_refl _, e2⟩
set_option maxRecDepth 100000 in
set_option maxHeartbeats 4000000 in
theorem step_news {W w : World} {B n m : Nat} {a : Nat → Addr} {a0 a1 : Addr} (hg : GlA W a a0 a1) (h : WI W w B n m) (hn : n ≤ 1050000) (q : Opd) (hk : q.kind = 3) (hfl : Fls W q.lv q.l) (hl : q.l.length * 40 ≤ 140737488351232) :
    Calls Tryz.prog 29 #[.pointer (some ⟨B, 0, none⟩), .agg q.cells.toArray] w fun e w' => e = .returned (.bool true) ∧ ∃ m', WI W w' B (n + 1) m' := by
  obtain ⟨kd, qa, qb, wh, f, lv, l⟩ := q
  have hk' : kd = 3 := hk
  subst hk'
  have hmn : m ≤ n + 2 := by
    obtain ⟨ps, qs, xs, gl, gm, il, im, o, vs, hF, _⟩ := h
    exact hF.m
  have HF := hide (fun (ob : Obj) => news_any hg (h.below hg (bel_one ob)) lv l ((Fls.below hfl h.bel).below (bel_one ob)) hl (Nat.le_succ n) (by omega) (by omega))
  obtain ⟨la, lc, hlv⟩ := Fls.form hfl
  have hlv' : lv = .slice la l.length lc := hlv
  subst hlv'
  clear h hg hk hfl hl hlv
  unfold Opd.cells at *
  go_enter Tryz.func29, Tryz.ntmps29
  go_wp2_with fail
  refine (unhide HF _).mono ?_
  rintro e w1 ⟨rfl, m', _, hw⟩
  have HW := hide hw
  clear hw HF
  go_wp2_with fail
  go_ret
  exact ⟨rfl, m', unhide HW⟩
end Go.Proofs.YtcnmajndackohaaGreatDoor
