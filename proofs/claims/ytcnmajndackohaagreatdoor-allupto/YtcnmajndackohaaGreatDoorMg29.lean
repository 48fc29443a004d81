import Derived.Test.YtcnmajndackohaaGreatDoorMg16
import Derived.Test.YtcnmajndackohaaGreatDoorMg28
/-
  Plain: a packet that is brought: the program's line and the document's.
-/
namespace Go.Proofs.YtcnmajndackohaaGreatDoor
section
variable {x : Ln} {s : PS} {rel : Int → Int}
theorem push_mem {x : Ln} {k size r : Int} {q : Pk} (h : q ∈ (x.push k size r).pk) : q ∈ x.pk ∨ q = ⟨k, x.seqOf k, size, r, -1, false, false⟩ := by
  have h' : q ∈ x.pk ++ [⟨k, x.seqOf k, size, r, -1, false, false⟩] := h
  rcases List.mem_append.1 h' with g | g
  · exact .inl g
  · exact .inr (List.mem_singleton.1 g)
theorem push_untold (h : Lnv x) (k size r : Int) : untoldL (x.push k size r).pk x.began = untoldL x.pk x.began := by
  unfold untoldL
  congr 1
  refine fm_congr _ _ _ fun i hi => ?_
  obtain ⟨p, hp, _⟩ := h.bg i hi
  have hl : i < x.pk.length := (List.getElem?_eq_some_iff.1 hp).1
  show (x.pk ++ [_])[i]? = x.pk[i]?
  rw [List.getElem?_append_left hl]
theorem push_seq (k size r j : Int) : (x.push k size r).seqOf j = x.seqOf j + if k = j then 1 else 0 := by
  unfold Ln.seqOf
  show (x.pk ++ [_]).countP _ = _
  rw [List.countP_append, List.countP_cons]
  by_cases g : k = j <;> simp [g]
theorem push_wait (k size r j : Int) : (x.push k size r).waiting j = x.waiting j + if k = j then 1 else 0 := by
  unfold Ln.waiting
  show (x.pk ++ [_]).countP _ = _
  rw [List.countP_append, List.countP_cons]
  by_cases g : k = j <;> simp [g]
theorem push_filter (c : Pk → Bool) (k size r : Int) : (x.push k size r).pk.filter c = x.pk.filter c ++ if c ⟨k, x.seqOf k, size, r, -1, false, false⟩ then [⟨k, x.seqOf k, size, r, -1, false, false⟩] else [] := by
  show (x.pk ++ [_]).filter c = _
  rw [List.filter_append, List.filter_cons]
  rfl
/-- What every packet that is brought leaves. -/
theorem Sim.pushed (h : Sim x s rel) {k size r : Int} (hod : ∃ B, Od (x.push k size r) B) (hk : 0 ≤ k → isOf x.fl k = 0) {s' : PS} (hn : s'.now = s.now) (hnum : s'.num = s.num) (hH : s'.H = s.H) (hG : s'.G = s.G)
    (hO : s'.O = s.O ++ if k = -1 then [⟨k, x.seqOf k, size, r, -1, false, false⟩] else []) (hbr : s'.br = s.br + if k = -1 then 1 else 0)
    (hdom : ∀ j, (∃ f, s'.fs j = some f) ↔ ∃ f, s.fs j = some f)
    (hval : ∀ j f, s'.fs j = some f → ∃ st, x.fl[j]? = some st ∧ f.f = st.f ∧ f.torn = decide (st.is = 1) ∧ f.br = (x.push k size r).seqOf j ∧ f.wa = (x.push k size r).waiting j ∧ f.L = (x.push k size r).pk.filter (hdB j (rel j)) ∧ Gok st.f j (x.push k size r).pk f.g) :
    Sim (x.push k size r) s' rel := by
  have hnq : quB rel ⟨k, x.seqOf k, size, r, -1, false, false⟩ = false := by
    rw [← Bool.not_eq_true, quB_iff]
    rintro ⟨_, _, g⟩
    have := h.rb k
    have g' : ((x.seqOf k : Nat) : Int) < rel k := g
    omega
  refine ⟨hod, ?_, ?_, ?_, ?_, ?_, h.is, hn.trans h.now, hnum.trans h.num, fun j => (hdom j).trans (h.dom j), hval, ?_, ?_, ?_, ?_⟩
  · intro q hq hx
    rcases push_mem hq with g | rfl
    · exact h.rr q g hx
    · rw [hnq] at hx; cases hx
  · intro q hq q0 qw qi
    rcases push_mem hq with g | rfl
    · exact h.lg q g q0 qw qi
    · have h1 : isOf x.fl k = 1 := qi
      rw [hk q0] at h1; cases h1
  · intro q hq q0 qw
    rcases push_mem hq with g | rfl
    · exact h.aw q g q0 qw
    · show isOf x.fl k < 2
      rw [hk q0]; decide
  · intro q hq qt
    rcases push_mem hq with g | rfl
    · exact h.tl q g qt
    · cases qt
  · intro j
    have := h.rb j
    rw [push_seq]
    omega
  · rw [hH]
    show s.H.Perm (((x.push k size r).pk.filter (quB rel)).map fun p => enP p (dueOf x.fl p.flow))
    rw [push_filter, hnq]
    simpa using h.H
  · rw [hO, push_filter, ← h.O]
    have : othB ⟨k, x.seqOf k, size, r, -1, false, false⟩ = decide (k = -1) := by unfold othB wt; simp
    rw [this]
    by_cases g : k = -1 <;> simp [g]
  · rw [hbr, push_seq, h.br]
    by_cases g : k = -1 <;> simp [g]
  · rw [hG, h.G]
    exact (push_untold h.inv k size r).symm
theorem Gok.gte {f : Fl} (hf : f.may) {k : Int} {pk : List Pk} {g : Gt} (h : Gok f k pk g) {m : Int} (m0 : 0 ≤ m) (hm : ∀ p ∈ pk, p.ready ≤ m) (m1 : m ≤ 50000000000000000) : Gte g := by
  intro hn
  obtain ⟨s0, s1, b0, b1, r0, p0, p1, _, _⟩ := hf
  have hP := h.peak hn
  have hB := h.burst hn
  have hl := h.lat hn
  refine ⟨⟨⟨hP.2.2.1, ?_, ?_, ?_, ?_⟩, ⟨hB.2.2.1, ?_, ?_, ?_, ?_⟩, hl.1⟩, ?_⟩
  · rw [hP.1]; exact hP.le
  · rw [hP.1]; omega
  · rw [hP.2.1]; omega
  · rw [hP.2.1]; omega
  · rw [hB.1]; exact hB.le
  · rw [hB.1]; omega
  · rw [hB.2.1]; omega
  · rw [hB.2.1]; omega
  · have h1 := hl.2 0 (Int.le_refl _)
    have h2 := latest_bd k pk 0 m0 hm
    omega
theorem Sim.alive (h : Sim x s rel) {k : Nat} {f : FS} (hf : s.fs k = some f) (ht : f.torn = false) : ∃ st, x.fl[k]? = some st ∧ f.f = st.f ∧ st.is = 0 := by
  obtain ⟨st, e1, e2, e3, _⟩ := h.val k f hf
  obtain ⟨st', e4, e5⟩ := (h.dom k).1 ⟨f, hf⟩
  rw [e1] at e4
  obtain rfl := Option.some.inj e4
  refine ⟨st, e1, e2, ?_⟩
  have h1 : ¬ st.is = 1 := by rw [ht] at e3; simpa using e3.symm
  rcases h.is st (List.mem_of_getElem? e1) with g | g | g
  · exact g
  · exact absurd g h1
  · omega
/-- A packet of a flow: its gate. -/
theorem Sim.pass (h : Sim x s rel) (b : Lbn x) {k : Nat} {f : FS} (hf : s.fs k = some f) {size : Int} (h1 : 1 ≤ size) (h2 : size ≤ f.f.s) :
    Gte f.g ∧ (f.g.pass s.now size).1 = toTick (x.readyAt f.f k size) ∧ Gok f.f k (x.pk ++ [⟨k, x.seqOf k, size, x.readyAt f.f k size, -1, false, false⟩]) (f.g.pass s.now size).2 := by
  obtain ⟨st, e1, e2, _, _, _, _, e7⟩ := h.val k f hf
  have hmay := h.inv.may st (List.mem_of_getElem? e1)
  rw [← e2] at hmay e7
  have hg := e7.gte hmay (m := 100000000000) (by omega) b.rd (by omega)
  have hn0 := h.inv.n0
  have hn1 := b.now
  rw [h.now]
  have hp := e7.pass hmay hn0 (by omega) (fun hn => by have := (hg hn).2; omega) h1 h2 (r := x.readyAt f.f k size) rfl (p := ⟨k, x.seqOf k, size, x.readyAt f.f k size, -1, false, false⟩) rfl
  exact ⟨hg, hp.1, hp.2.1⟩
/-- A packet of a flow. -/
theorem Sim.send (h : Sim x s rel) (b : Lbn x) {k : Nat} {f : FS} (hf : s.fs k = some f) (ht : f.torn = false) {size : Int} (h1 : 1 ≤ size) (h2 : size ≤ f.f.s) (v : Value) (o : Whose) (hod : ∃ B, Od (x.push k size (x.readyAt f.f k size)) B) :
    Sim (x.push k size (x.readyAt f.f k size)) { s with fs := upd s.fs k (f.sent v s.now size (x.readyAt f.f k size) k), o := o } rel := by
  obtain ⟨hg, hp1, hp2⟩ := h.pass b hf h1 h2
  obtain ⟨st0, e0, _, ei⟩ := h.alive hf ht
  refine h.pushed hod (fun _ => by rw [is_at e0]; exact ei) rfl rfl rfl rfl ?_ ?_ ?_ ?_
  · show s.O = _
    rw [if_neg (by omega), List.append_nil]
  · show s.br = _
    rw [if_neg (by omega)]; omega
  · intro j
    show (∃ g, upd s.fs k _ j = some g) ↔ _
    by_cases e : j = k
    · subst e; rw [upd_same]; exact ⟨fun _ => ⟨f, hf⟩, fun _ => ⟨_, rfl⟩⟩
    · rw [upd_far _ _ e]
  · intro j g hg'
    have hg2 : upd s.fs k _ j = some g := hg'
    by_cases e : j = k
    · subst e
      rw [upd_same] at hg2
      obtain rfl := Option.some.inj hg2
      obtain ⟨st, q1, q2, q3, q4, q5, q6, q7⟩ := h.val j f hf
      refine ⟨st, q1, q2, q3, ?_, ?_, ?_, ?_⟩
      · show f.br + 1 = _
        rw [push_seq, if_pos rfl, q4]; omega
      · show f.wa + 1 = _
        rw [push_wait, if_pos rfl, q5]; omega
      · show f.L ++ [⟨j, f.br, size, x.readyAt f.f j size, -1, false, false⟩] = _
        rw [push_filter, q6, q4]
        have : hdB j (rel j) ⟨j, x.seqOf j, size, x.readyAt f.f j size, -1, false, false⟩ = true := (hdB_iff _ _ _).2 ⟨rfl, rfl, h.rb j⟩
        rw [if_pos this]
      · rw [← q2]; exact hp2
    · rw [upd_far _ _ e] at hg2
      obtain ⟨st, q1, q2, q3, q4, q5, q6, q7⟩ := h.val j g hg2
      have hne : ¬ (k : Int) = (j : Int) := fun c => e (by omega)
      refine ⟨st, q1, q2, q3, ?_, ?_, ?_, q7.other hne⟩
      · rw [push_seq, if_neg hne, q4]; rfl
      · rw [push_wait, if_neg hne, q5]; rfl
      · rw [push_filter, if_neg, List.append_nil]
        · exact q6
        · rw [hdB_iff]; exact fun c => hne c.1
/-- One of none. -/
theorem Sim.other (h : Sim x s rel) {size : Int} (v : Value) (o : Whose) (hod : ∃ B, Od (x.push (-1) size x.now) B) :
    Sim (x.push (-1) size x.now) { s with vo := v, O := s.O ++ [⟨-1, s.br, size, s.now, -1, false, false⟩], br := s.br + 1, o := o } rel := by
  refine h.pushed hod (fun c => by omega) rfl rfl rfl rfl ?_ ?_ (fun j => Iff.rfl) ?_
  · show s.O ++ [_] = _
    rw [if_pos rfl, h.br, h.now]
  · show s.br + 1 = _
    rw [if_pos rfl]
  · intro j g hg
    obtain ⟨st, q1, q2, q3, q4, q5, q6, q7⟩ := h.val j g hg
    have hne : ¬ (-1 : Int) = (j : Int) := by omega
    refine ⟨st, q1, q2, q3, ?_, ?_, ?_, q7.other hne⟩
    · rw [push_seq, if_neg hne, q4]; rfl
    · rw [push_wait, if_neg hne, q5]; rfl
    · rw [push_filter, if_neg, List.append_nil]
      · exact q6
      · rw [hdB_iff]; exact fun c => hne c.1
end
end Go.Proofs.YtcnmajndackohaaGreatDoor
