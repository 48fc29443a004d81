import Derived.Test.YtcnmajndackohaaGreatDoorMg01
import Derived.Test.YtcnmajndackohaaGreatDoorMg10
/-
  What the keeper's pick and most do.
-/
namespace Go.Proofs.YtcnmajndackohaaGreatDoor
open Go.RowKit

theorem pk_of_neg {c n : Int} (h : c < 0) : -(c + 1).tmod n = pk c n := by
  unfold pk; rw [if_pos h, ← Int.neg_tmod, Int.tmod_eq_emod_of_nonneg (by omega)]
theorem pk_of_nonneg {c n : Int} (h : 0 ≤ c) : c % n = pk c n := by
  unfold pk; rw [if_neg (by omega)]

set_option maxHeartbeats 400000 in
theorem pick_any (c n : Int) (w : World) (c0 : -9223372036854775808 ≤ c) (c1 : c ≤ 9223372036854775807) (n0 : 0 < n) (n1 : n ≤ 100000) :
    Calls Tryz.prog 55 #[.int .i64 c, .int .i64 n] w fun e w' => e = .returned (.int .i64 (pk c n)) ∧ w' = w := by
  have hz : (n == 0) = false := beq_eq_false_iff_ne.2 (by omega)
  by_cases h : c < 0
  · go_enter Tryz.func55, Tryz.ntmps55
    go_wp2
    go_ret
    exact ⟨ret_int (pk_of_neg h), rfl⟩
  · go_enter Tryz.func55, Tryz.ntmps55
    go_wp2
    go_ret
    exact ⟨ret_int (pk_of_nonneg (by omega)), rfl⟩

set_option maxHeartbeats 1000000 in
theorem kmost_ok (s p b r d t : Int) (w : World) (hs : Sts w) (h : May s p b r d) (t1 : t ≤ 100000) :
    Calls Tryz.prog 23 #[.agg #[.int .i64 s, .int .i64 p, .int .i64 b, .int .i64 r, .int .i64 d], .int .i64 t] w fun e w' => e = .returned (.int .i64 (allow s p b r t)) ∧ Below w.heap.size w w' := by
  have HS := hide hs
  clear hs
  go_enter Tryz.func23, Tryz.ntmps23
  go_wp2_with fail
  refine (tmost_ok s p b r d t _ ((unhide HS).below ((Below.refl _ _).alloc (Nat.le_refl _) _)) h t1).mono ?_
  rintro e w1 ⟨rfl, hb⟩
  go_wp2_with fail
  go_ret
  exact ⟨rfl, ((Below.refl _ _).alloc (Nat.le_refl _) _).trans (hb.mono (by simp))⟩
end Go.Proofs.YtcnmajndackohaaGreatDoor
/-
  What a step of a play does.
-/
namespace Go.Proofs.YtcnmajndackohaaGreatDoor
open Go.RowKit

theorem icells_append (l m : List Int) : icells (l ++ m) = icells l ++ icells m := by unfold icells; rw [List.map_append]
theorem ownsRow_set {w : World} {t : TypeId} {g n cap k : Nat} {cs : List Value} {v : Value} (h : w.ownsRow 0 t 1 (.slice (some ⟨g, 0, none⟩) n cap) n cs) : (w.setCell ⟨g, k, none⟩ v).ownsRow 0 t 1 (.slice (some ⟨g, 0, none⟩) n cap) n (cs.set k v) := by
  refine ⟨by rw [List.length_set]; exact h.1, ?_⟩
  rcases h.2 with ⟨e, _⟩ | ⟨g', cap', cur, e1, e2, e3, e4, e5, e6, e7⟩
  · cases e
  · simp only [Value.slice.injEq, Option.some.injEq, Addr.mk.injEq] at e1
    obtain ⟨⟨rfl, _, _⟩, _, rfl⟩ := e1
    refine .inr ⟨g, cap, cur.setIfInBounds k v, rfl, e2, Is.set e3 k v, e4, e5, by rw [Array.size_setIfInBounds]; exact e6, ?_⟩
    rw [Array.toList_setIfInBounds, ← e7]
    rw [List.take_set]
section
variable {W : World} {R : World → Nat → Ln → (Nat → Prop) → Prop} {w : World} {b : Nat} {s : Pst} {o : Whose} {P : Nat} {F : Nat → Prop} {vf vs vo vg : Value} {inn : List Value}
theorem PlayV.otOn (h : PlayV W R w b s o P F vf vs vo vg inn) (K : LineJ W R) {w1 w2 : World} {v' : Value} {z : Int} (hb : Below w.heap.size w w1) (h' : w2.ownsRow 0 3 1 v' (s.other.length + 1) (icells s.other ++ [.int .i64 z])) (hg : w1.grownBy w2 vo.ownBlock) (hat : ∀ g, v'.ownBlock = some g → vo.ownBlock = some g ∨ w.heap.size ≤ g) :
    Is w2 b 57 #[.pointer (some ⟨P, 0, none⟩), vf, vs, vo, vg] ∧ PlayV W R (w2.setCell ⟨b, 3, none⟩ v') b { s with other := s.other ++ [z] } (o.give w.heap.size w2.heap.size 5) P F vf vs v' vg inn := by
  obtain ⟨hr, ho⟩ := h.ot.grown hb h' hg hat
  have hI := h.blkOn (c := 5) (by decide) hb hg h.ot.2
  have ho2 : Only (fun i => o i = 5 ∨ i = b) w (w2.setCell ⟨b, 3, none⟩ v') := (ho.mono fun i _ k => .inl k).setCell (.inl (.inr rfl))
  have k := h.kept K (c := 5) (by decide) (by decide) ho2 (o' := o.give w.heap.size w2.heap.size 5) (fun i hi => give_old hi)
  refine ⟨hI, hI.set 3 v', k.line, k.lt, k.fl (by decide), k.se (by decide), h.il, fun j l hl => k.ins j l hl (by omega), ?_, k.go (by decide), k.pb, ?_, k.lo, k.bl⟩
  · refine Rw.keep (S := fun i => i = b) (o := o.give w.heap.size w2.heap.size 5) (c := 5) ?_ (only_set _ _ _ _) (fun i e => ?_) (fun _ _ => rfl)
    · rw [icells_append, List.length_append]; exact hr
    · rw [e, k.pb]; decide
  · intro i hi
    rw [set_size] at hi
    exact give_free h.fr ho.size i hi
/-- One of the flows' lists of what was sent grows, and the list of lists has it. -/
theorem PlayV.inOn {gs cs : Nat} (h : PlayV W R w b s o P F vf (.slice (some ⟨gs, 0, none⟩) inn.length cs) vo vg inn) (K : LineJ W R) {w1 w2 : World} {v v' : Value} {z : Int} {k : Nat} {l : List Int} (hl : s.sent[k]? = some l) (hv : inn[k]? = some v) (hb : Below w.heap.size w w1)
    (h' : w2.ownsRow 0 3 1 v' (l.length + 1) (icells l ++ [.int .i64 z])) (hg : w1.grownBy w2 v.ownBlock) (hat : ∀ g, v'.ownBlock = some g → v.ownBlock = some g ∨ w.heap.size ≤ g) :
    w2.ownsRow 0 27 1 (.slice (some ⟨gs, 0, none⟩) inn.length cs) inn.length inn ∧ w2.frozen? ⟨gs, k, none⟩ = false ∧ Is w2 b 57 #[.pointer (some ⟨P, 0, none⟩), vf, .slice (some ⟨gs, 0, none⟩) inn.length cs, vo, vg] ∧ PlayV W R (w2.setCell ⟨gs, k, none⟩ v') b { s with sent := s.sent.set k (l ++ [z]) } (o.give w.heap.size w2.heap.size (10 + k)) P F vf (.slice (some ⟨gs, 0, none⟩) inn.length cs) vo vg (inn.set k v') := by
  obtain ⟨v0, hv0, hr0⟩ := h.ins k l hl
  have : v0 = v := Option.some.inj (hv0.symm.trans hv)
  subst this
  obtain ⟨hr, ho⟩ := hr0.grown hb h' hg hat
  have hki : k < inn.length := (List.getElem?_eq_some_iff.1 hv).1
  have hgs : o gs = 4 := h.se.2 gs rfl
  have hgl := (ownsRow_lt h.se.1 gs rfl).2
  have hse2 : w2.ownsRow 0 27 1 (.slice (some ⟨gs, 0, none⟩) inn.length cs) inn.length inn := ownsRow_only h.se.1 ho fun g hg' e => by
    have e1 : o g = 4 := h.se.2 g hg'
    omega
  have hI := h.blkOn (c := 10 + k) (by omega) hb hg hr0.2
  have ho2 : Only (fun i => o i = 10 + k ∨ i = gs) w (w2.setCell ⟨gs, k, none⟩ v') := (ho.mono fun i _ q => .inl q).setCell (.inl (.inr rfl))
  have old : ∀ i, i < w.heap.size → o.give w.heap.size w2.heap.size (10 + k) i = o i := fun i hi => give_old hi
  have ne : ∀ d, d ≠ 10 + k → d ≠ 4 → ∀ i, (o i = 10 + k ∨ i = gs) → o i ≠ d := fun d h1 h4 i hi e => by
    rcases hi with q | q
    · exact h1 (e.symm.trans q)
    · rw [q, hgs] at e; exact h4 e.symm
  have hfz : w2.frozen? ⟨gs, k, none⟩ = false := by
    rcases hse2.2 with ⟨e, _⟩ | ⟨g', cap', cur, e1, _, e3, _⟩
    · cases e
    · simp only [Value.slice.injEq, Option.some.injEq, Addr.mk.injEq] at e1
      obtain ⟨⟨rfl, _, _⟩, _, _⟩ := e1
      exact Is.frozen e3 k
  refine ⟨hse2, hfz, hI, ⟨hI.only (S := fun i => i = gs) (only_set _ _ _ _) (fun e => ?_), K.keep h.line ho2 fun i hi hf => ne 2 (by omega) (by decide) i hi (h.lt i hf), fun i hi => (old i (K.ge h.line i hi).2).trans (h.lt i hi), h.fl.keep ho2 (ne 3 (by omega) (by decide)) old, ⟨?_, fun g hg' => ?_⟩, ?_, fun j l' hl' => ?_, h.ot.keep ho2 (ne 5 (by omega) (by decide)) old, h.go.keep ho2 (ne 6 (by omega) (by decide)) old, (old b h.blk.lt).trans h.pb, ?_, fun i hi => (old i (Nat.lt_of_lt_of_le hi h.bl.size)).trans (h.lo i hi), h.belowOf ho2 fun i hi => ?_⟩⟩
  · have := h.pb
    rw [e, hgs] at this; cases this
  · have := ownsRow_set (k := k) (v := v') hse2
    rw [List.length_set]; exact this
  · have : gs = g := Option.some.inj hg'
    rw [← this, old gs hgl]; exact hgs
  · show (inn.set k v').length = (s.sent.set k _).length
    rw [List.length_set, List.length_set]; exact h.il
  · have hl'' : (s.sent.set k (l ++ [z]))[j]? = some l' := hl'
    by_cases hjk : j = k
    · subst hjk
      have hks : j < s.sent.length := by rw [← h.il]; exact hki
      rw [List.getElem?_set, if_pos rfl, if_pos hks] at hl''
      have : l' = l ++ [z] := (Option.some.inj hl'').symm
      subst this
      refine ⟨v', by rw [List.getElem?_set, if_pos rfl, if_pos hki], ?_⟩
      refine Rw.keep (S := fun i => i = gs) (o := o.give w.heap.size w2.heap.size (10 + j)) (c := 10 + j) ?_ (only_set _ _ _ _) (fun i e => ?_) (fun _ _ => rfl)
      · rw [icells_append, List.length_append]; exact hr
      · rw [e, old gs hgl, hgs]; omega
    · rw [List.getElem?_set, if_neg (fun e => hjk e.symm)] at hl''
      obtain ⟨u, hu, hru⟩ := h.ins j l' hl''
      exact ⟨u, by rw [List.getElem?_set, if_neg (fun e => hjk e.symm)]; exact hu, hru.keep ho2 (ne (10 + j) (by omega) (by omega)) old⟩
  · intro i hi
    rw [set_size] at hi
    exact give_free h.fr ho.size i hi
  · rcases hi with q | q
    · rw [q]; omega
    · rw [q, hgs]; decide
end
end Go.Proofs.YtcnmajndackohaaGreatDoor
/-
  What a step of a play does: none, Run, Other.
-/
namespace Go.Proofs.YtcnmajndackohaaGreatDoor
open Go.RowKit

/-- A step, raw. -/
structure Stp where
  kind : Int
  a : Int
  b : Int
  f : Fl
def Stp.agg (q : Stp) : Value := .agg #[.int .i64 q.kind, .int .i64 q.a, .int .i64 q.b, .int .i64 q.f.s, .int .i64 q.f.p, .int .i64 q.f.b, .int .i64 q.f.r, .int .i64 q.f.d]

set_option maxRecDepth 100000 in
set_option maxHeartbeats 2000000 in
theorem act_none (w : World) (b : Nat) (q : Stp) (hk : q.kind < 1 ∨ 5 < q.kind) :
    Calls Tryz.prog 38 #[.pointer (some ⟨b, 0, none⟩), q.agg] w fun e w' => e = .returned (.bool true) ∧ Below w.heap.size w w' := by
  unfold Stp.agg
  have h1 : (q.kind == 1) = false := by simp; omega
  have h2 : (q.kind == 2) = false := by simp; omega
  have h3 : (q.kind == 3) = false := by simp; omega
  have h4 : (q.kind == 4) = false := by simp; omega
  have h5 : (q.kind == 5) = false := by simp; omega
  clear hk
  go_enter Tryz.func38, Tryz.ntmps38
  go_wp2_with fail
  go_ret
  exact ⟨rfl, bel_one _⟩

section
variable {W : World} {R : World → Nat → Ln → (Nat → Prop) → Prop} {w : World} {b : Nat} {s : Pst}
theorem PlayAt.only {w' : World} (h : PlayAt W R w b s) (K : LineJ W R) (hb : Below w.heap.size w w') : PlayAt W R w' b s := by
  obtain ⟨o, P, F, vf, vs, vo, vg, inn, hp⟩ := h
  have ho : Only (fun _ => False) w w' := Only.of_below hb
  have nn : ∀ c i, False → o i ≠ c := fun _ _ q => q.elim
  refine ⟨o.give w.heap.size w'.heap.size 0, P, F, vf, vs, vo, vg, inn, ?_⟩
  have old : ∀ i, i < w.heap.size → o.give w.heap.size w'.heap.size 0 i = o i := fun i hi => give_old hi
  exact ⟨hp.blk.below hb, K.keep hp.line ho (fun _ q => q.elim), fun i hi => (old i (K.ge hp.line i hi).2).trans (hp.lt i hi), hp.fl.keep ho (nn 3) old, hp.se.keep ho (nn 4) old, hp.il, fun k l hl => by
    obtain ⟨v, hv, hr⟩ := hp.ins k l hl
    exact ⟨v, hv, hr.keep ho (nn (10 + k)) old⟩, hp.ot.keep ho (nn 5) old, hp.go.keep ho (nn 6) old, (old b hp.blk.lt).trans hp.pb, give_free hp.fr hb.size, fun i hi => (old i (Nat.lt_of_lt_of_le hi hp.bl.size)).trans (hp.lo i hi), hp.bl.trans (hb.mono hp.bl.size)⟩
end

set_option maxRecDepth 100000 in
set_option maxHeartbeats 2000000 in
theorem act_run {W : World} {R : World → Nat → Ln → (Nat → Prop) → Prop} (K : LineJ W R) (w : World) (b : Nat) (s : Pst) (n : Nat) (q : Stp) (h : PlayAt W R w b s) (hs : Sml s.x n) (hn : n < 2000000) (hg : s.gone.length ≤ 1000000000) (hk : q.kind = 3) (a0 : -9223372036854775808 ≤ q.a) (a1 : q.a ≤ 9223372036854775807) :
    Calls Tryz.prog 38 #[.pointer (some ⟨b, 0, none⟩), q.agg] w fun e w' => e = .returned (.bool (decide ((s.x.run (pk q.a 30)).1 = 0))) ∧ PlayAt W R w' b (s.runs (pk q.a 30)) := by
  have HA := hide (h.only K (bel_one (.cells #[.int .i64 3, .int .i64 q.a, .int .i64 q.b, .int .i64 q.f.s, .int .i64 q.f.p, .int .i64 q.f.b, .int .i64 q.f.r, .int .i64 q.f.d] 48)))
  have HS := hide hs
  have HK := hide K
  have k0 := pk_nonneg q.a 30 (by decide)
  have k1 := pk_lt q.a 30 (by decide)
  unfold Stp.agg
  rw [hk]
  clear h hs K hk
  go_enter Tryz.func38, Tryz.ntmps38
  go_wp2_with fail
  refine (pick_any q.a 30 _ a0 a1 (by decide) (by decide)).mono ?_
  rintro e w1 ⟨rfl, rfl⟩
  go_wp2_with fail
  refine (runs_any (unhide HK) _ b s n (pk q.a 30) (unhide HA) (unhide HS) hn hg (by omega) (by omega)).mono ?_
  rintro e w2 ⟨rfl, hp⟩
  have HP := hide hp
  clear hp
  go_wp2_with fail
  go_ret
  exact ⟨rfl, unhide HP⟩
end Go.Proofs.YtcnmajndackohaaGreatDoor
