import Derived.Test.YtcnmajndackohaaGreatDoorMg29
import Derived.Test.YtcnmajndackohaaGreatDoorMg32
/-
  Plain: what Gone tells: the program's line and the document's.
-/
namespace Go.Proofs.YtcnmajndackohaaGreatDoor
theorem told_get (now : Int) : ∀ (l : List Nat) (pk : List Pk) (j : Nat), (goneL now l pk).2[j]? = (pk[j]?).map fun p => if j ∈ l ∧ fresh1 now p = true then tell p else p
  | [], pk, j => by
    show pk[j]? = _
    cases pk[j]? <;> simp
  | i :: l, pk, j => by
    cases hp : pk[i]? with
    | none =>
      have e : goneL now (i :: l) pk = goneL now l pk := by conv => lhs; unfold goneL; rw [hp]
      rw [e, told_get now l pk j]
      cases hj : pk[j]? with
      | none => rfl
      | some p =>
        have : j ≠ i := fun c => by rw [c, hp] at hj; cases hj
        simp [this]
    | some p =>
      by_cases hf : fresh1 now p = true
      · have e : (goneL now (i :: l) pk).2 = (goneL now l (pk.modify i tell)).2 := by
          conv => lhs; unfold goneL
          rw [hp]
          simp only [hf, if_true]
        rw [e, told_get now l _ j, List.getElem?_modify]
        by_cases hji : i = j
        · subst hji
          rw [hp]
          have ht : fresh1 now (tell p) = false := by unfold fresh1 tell; simp
          simp [ht, hf]
        · cases hj : pk[j]? with
          | none => rfl
          | some q => simp [hji, Ne.symm hji]
      · have e : (goneL now (i :: l) pk).2 = (goneL now l pk).2 := by
          conv => lhs; unfold goneL
          rw [hp]
          simp only [hf]
          rfl
        rw [e, told_get now l pk j]
        cases hj : pk[j]? with
        | none => rfl
        | some q =>
          by_cases hji : j = i
          · subst hji
            rw [hp] at hj
            obtain rfl := Option.some.inj hj
            simp [hf]
          · simp [hji]
theorem gone_fst (now : Int) : ∀ (l : List Nat) (pk : List Pk), l.Nodup → (goneL now l pk).1 = (l.filterMap fun i => pk[i]?).filter (fresh1 now)
  | [], _, _ => rfl
  | i :: l, pk, hd => by
    obtain ⟨h1, h2⟩ := List.nodup_cons.1 hd
    cases hp : pk[i]? with
    | none =>
      have e : goneL now (i :: l) pk = goneL now l pk := by conv => lhs; unfold goneL; rw [hp]
      rw [e, gone_fst now l pk h2, List.filterMap_cons_none hp]
    | some p =>
      rw [List.filterMap_cons_some hp]
      by_cases hf : fresh1 now p = true
      · have e : (goneL now (i :: l) pk).1 = p :: (goneL now l (pk.modify i tell)).1 := by
          conv => lhs; unfold goneL
          rw [hp]
          simp only [hf, if_true]
        rw [e, gone_fst now l _ h2, List.filter_cons_of_pos hf]
        congr 2
        refine fm_congr _ _ _ fun j hj => ?_
        have hne : ¬ i = j := fun c => h1 (by rw [c]; exact hj)
        rw [List.getElem?_modify]
        cases pk[j]? <;> simp [hne]
      · have e : (goneL now (i :: l) pk).1 = (goneL now l pk).1 := by
          conv => lhs; unfold goneL
          rw [hp]
          simp only [hf]
          rfl
        rw [e, gone_fst now l pk h2, List.filter_cons_of_neg hf]
theorem filter_alike (c : Pk → Bool) : ∀ (l l' : List Pk), l'.length = l.length → (∀ (j : Nat) (p p' : Pk), l[j]? = some p → l'[j]? = some p' → p' = p ∨ (c p = false ∧ c p' = false)) → l'.filter c = l.filter c
  | [], [], _, _ => rfl
  | [], _ :: _, h, _ => by simp at h
  | _ :: _, [], h, _ => by simp at h
  | p :: l, p' :: l', h, hh => by
    have ih := filter_alike c l l' (by simpa using h) fun j q q' h1 h2 => hh (j + 1) q q' h1 h2
    rcases hh 0 p p' rfl rfl with rfl | ⟨h1, h2⟩
    · rw [List.filter_cons, List.filter_cons, ih]
    · rw [List.filter_cons_of_neg (by rw [h2]; decide), List.filter_cons_of_neg (by rw [h1]; decide), ih]
section
variable {x : Ln} {s : PS} {rel : Int → Int}
theorem wt_untold (p : Pk) : wt (untold p) = wt p := rfl
/-- All but the one under way have ended. -/
theorem Sim.ends (h : Sim x s rel) : s.G.filter (fun p => decide (p.start + p.size ≤ x.now)) = s.G.take s.ended ∧ s.G.filter (fun p => !decide (p.start + p.size ≤ x.now)) = s.G.drop s.ended ∧ s.ended ≤ s.G.length := by
  have hbz := h.busy
  have hst : ∀ q ∈ s.G, (∃ i ∈ x.began, x.pk[i]? = some q) ∧ 0 ≤ q.start := fun q hq => by
    rw [h.G] at hq
    obtain ⟨⟨i, hi, hp⟩, _⟩ := untold_mem hq
    obtain ⟨q', hq', h0⟩ := h.inv.bg i hi
    rw [hp] at hq'
    obtain rfl := Option.some.inj hq'
    exact ⟨⟨i, hi, hp⟩, h0⟩
  cases hb : x.busy with
  | false =>
    rw [hb] at hbz
    have hall := h.inv.idle hb
    have he : s.ended = s.G.length := by unfold PS.ended; rw [hbz]; rfl
    have hd : ∀ q ∈ s.G, q.start + q.size ≤ x.now := fun q hq => by
      obtain ⟨⟨i, _, hp⟩, h0⟩ := hst q hq
      have := hall q (List.mem_of_getElem? hp)
      unfold done at this
      omega
    rw [he, List.take_length, List.drop_length]
    refine ⟨List.filter_eq_self.2 fun q hq => by simpa using hd q hq, List.filter_eq_nil_iff.2 fun q hq => by simpa using hd q hq, Nat.le_refl _⟩
  | true =>
    rw [hb] at hbz
    obtain ⟨l1, p, l2, e, hl, hg, h0, h1, d1, d2⟩ := h.inv.bsy hb
    obtain ⟨p', hp', hG', hlt, hpm⟩ := h.last hb
    rw [hl] at hp'
    obtain rfl := Option.some.inj hp'
    obtain ⟨G0, hG0⟩ : ∃ G0, s.G = G0 ++ [p] := by
      rcases List.eq_nil_or_concat s.G with g | ⟨l, q, g⟩
      · rw [g] at hG'; cases hG'
      · rw [List.concat_eq_append] at g
        rw [g] at hG'
        simp at hG'
        exact ⟨l, by rw [g, hG']⟩
    obtain ⟨B, hB⟩ := h.od
    -- the others are others
    obtain ⟨lb, hlb⟩ : ∃ lb, x.began = lb ++ [l1.length] := by
      rcases List.eq_nil_or_concat x.began with g | ⟨l, i, g⟩
      · rw [g] at hg; cases hg
      · rw [List.concat_eq_append] at g
        rw [g] at hg
        simp at hg
        exact ⟨l, by rw [g, hg]⟩
    have hpk : x.pk[l1.length]? = some p := by rw [e]; exact get_at
    have htold : p.told = false := by
      rw [← Bool.not_eq_true]
      intro c
      have := h.tl p hpm c
      omega
    have hGe : G0 = untoldL x.pk lb := by
      have h2 := h.G
      rw [hG0, hlb] at h2
      unfold untoldL at h2
      rw [List.filterMap_append, List.filter_append, List.filterMap_cons_some hpk, List.filterMap_nil, List.filter_cons_of_pos (by simp [htold])] at h2
      exact List.append_cancel_right h2
    have hnd := hB.nd
    rw [hlb] at hnd
    have hd : ∀ q ∈ G0, q.start + q.size ≤ x.now := fun q hq => by
      have hq' := hq
      rw [hGe] at hq'
      obtain ⟨⟨i, hi, hp⟩, _⟩ := untold_mem hq'
      have hne : i ≠ l1.length := by
        rintro rfl
        have := List.nodup_append.1 hnd
        exact this.2.2 _ hi _ (List.mem_singleton.2 rfl) rfl
      obtain ⟨_, h2⟩ := hst q (by rw [hG0]; simp [hq])
      have hdn : done x.now q := by
        rw [e] at hp
        rcases Nat.lt_or_ge i l1.length with g | g
        · rw [List.getElem?_append_left g] at hp
          exact d1 q (List.mem_of_getElem? hp)
        · rw [List.getElem?_append_right g] at hp
          obtain ⟨j, hj⟩ : ∃ j, i - l1.length = j + 1 := ⟨i - l1.length - 1, by omega⟩
          rw [hj] at hp
          exact d2 q (List.mem_of_getElem? hp)
      unfold done at hdn
      omega
    have he : s.ended = G0.length := by unfold PS.ended; rw [hbz, hG0]; simp
    rw [he, hG0, List.take_left' rfl, List.drop_left' rfl, List.filter_append, List.filter_append]
    have c1 : ¬ p.start + p.size ≤ x.now := by omega
    refine ⟨?_, ?_, by simp⟩
    · rw [List.filter_eq_self.2 fun q hq => by simpa using hd q hq]
      simp [c1]
    · rw [List.filter_eq_nil_iff.2 fun q hq => by simpa using hd q hq]
      simp [c1]
theorem fresh_eq (now : Int) (l : List Pk) : l.filter (fresh1 now) = (l.filter fun p => !p.told).filter fun p => decide (p.start + p.size ≤ now) := by
  rw [List.filter_filter]
  refine List.filter_congr fun p _ => ?_
  unfold fresh1
  rw [Bool.and_comm]
theorem Sim.gone1 (h : Sim x s rel) : x.gone.1 = s.G.take s.ended := by
  obtain ⟨B, hB⟩ := h.od
  show (goneL x.now x.began x.pk).1 = _
  rw [gone_fst _ _ _ hB.nd, fresh_eq, ← h.ends.1, h.G]
  rfl
theorem Sim.gone (h : Sim x s rel) (vb : Value) (o : Whose) : Sim x.gone.2 (s.told s.ended vb o) rel := by
  have hget := told_get x.now x.began x.pk
  have hun := gone_untold x.now x.began x.pk
  have hod : ∃ B, Od x.gone.2 B := let ⟨B, hB⟩ := h.od; ⟨B, od_gone hB⟩
  have hpk : x.gone.2.pk = (goneL x.now x.began x.pk).2 := rfl
  generalize hP : (goneL x.now x.began x.pk).2 = pk' at *
  have hlen : pk'.length = x.pk.length := by
    have := congrArg List.length hun
    rwa [List.length_map, List.length_map] at this
  have hmem : ∀ q ∈ pk', ∃ p ∈ x.pk, untold p = untold q := fun q hq => by
    have : untold q ∈ x.pk.map untold := by rw [← hun]; exact List.mem_map.2 ⟨q, hq, rfl⟩
    obtain ⟨p, hp, e⟩ := List.mem_map.1 this
    exact ⟨p, hp, e⟩
  have hwt : ∀ {p q : Pk}, untold p = untold q → wt p = wt q ∧ p.flow = q.flow ∧ p.seq = q.seq ∧ p.ready = q.ready := fun {p q} e => by
    have e1 : p.flow = q.flow := (congrArg Pk.flow e : (untold p).flow = (untold q).flow)
    have e2 : p.seq = q.seq := (congrArg Pk.seq e : (untold p).seq = (untold q).seq)
    have e3 : p.ready = q.ready := (congrArg Pk.ready e : (untold p).ready = (untold q).ready)
    exact ⟨by rw [← wt_untold p, ← wt_untold q, e], e1, e2, e3⟩
  have hqu : ∀ {p q : Pk}, untold p = untold q → quB rel p = quB rel q := fun {p q} e => by
    obtain ⟨e1, e2, e3, _⟩ := hwt e
    unfold quB
    rw [e1, e2, e3]
  have halike : ∀ (c : Pk → Bool), (∀ p, c p = true → wt p = true) → pk'.filter c = x.pk.filter c := fun c hc => by
    refine filter_alike c x.pk pk' hlen fun j p p' h1 h2 => ?_
    have := hget j
    rw [h1, h2, Option.map_some] at this
    have e := Option.some.inj this
    by_cases g : j ∈ x.began ∧ fresh1 x.now p = true
    · rw [if_pos g] at e
      obtain ⟨q, hq, q0⟩ := h.inv.bg j g.1
      rw [h1] at hq
      obtain rfl := Option.some.inj hq
      have hno : ∀ z : Pk, 0 ≤ z.start → c z = false := fun z hz => by
        rw [← Bool.not_eq_true]
        intro cz
        have := ((wt_iff z).1 (hc z cz)).1
        omega
      exact .inr ⟨hno p q0, hno p' (by rw [e]; exact q0)⟩
    · rw [if_neg g] at e
      exact .inl e
  have hseq : ∀ k : Int, x.gone.2.seqOf k = x.seqOf k := fun k => by
    unfold Ln.seqOf
    rw [hpk]
    exact countP_untold hun k
  have hwait : ∀ k : Int, x.gone.2.waiting k = x.waiting k := fun k => by
    unfold Ln.waiting
    rw [hpk, List.countP_eq_length_filter, List.countP_eq_length_filter, halike]
    intro p hp
    simp only [Bool.and_eq_true, decide_eq_true_eq, Bool.not_eq_true'] at hp
    exact (wt_iff p).2 ⟨hp.1.2, hp.2⟩
  refine ⟨hod, ?_, ?_, ?_, ?_, ?_, h.is, h.now, h.num, h.dom, ?_, ?_, ?_, ?_, ?_⟩
  · intro q hq hx
    rw [hpk] at hq
    obtain ⟨p, hp, e⟩ := hmem q hq
    have := h.rr p hp (by rw [hqu e]; exact hx)
    rw [(hwt e).2.2.2] at this
    exact this
  · intro q hq q0 qw qi
    rw [hpk] at hq
    obtain ⟨p, hp, e⟩ := hmem q hq
    obtain ⟨e1, e2, e3, _⟩ := hwt e
    rw [← e1] at qw
    rw [← e2] at q0 qi ⊢
    rw [← e3]
    exact h.lg p hp q0 qw qi
  · intro q hq q0 qw
    rw [hpk] at hq
    obtain ⟨p, hp, e⟩ := hmem q hq
    obtain ⟨e1, e2, _⟩ := hwt e
    rw [← e1] at qw
    rw [← e2] at q0 ⊢
    exact h.aw p hp q0 qw
  · intro q hq qt
    rw [hpk] at hq
    obtain ⟨j, hj⟩ := List.mem_iff_getElem?.1 hq
    have h2 := hget j
    rw [hj] at h2
    obtain ⟨p, hp, e⟩ := Option.map_eq_some_iff.1 h2.symm
    by_cases g : j ∈ x.began ∧ fresh1 x.now p = true
    · rw [if_pos g] at e
      obtain ⟨p', hp', p0⟩ := h.inv.bg j g.1
      rw [hp] at hp'
      obtain rfl := Option.some.inj hp'
      have := g.2
      unfold fresh1 at this
      simp only [Bool.and_eq_true, decide_eq_true_eq] at this
      rw [← e]
      exact ⟨p0, this.2⟩
    · rw [if_neg g] at e
      subst e
      exact h.tl p (List.mem_of_getElem? hp) qt
  · intro k
    rw [hseq]; exact h.rb k
  · intro k f hf
    obtain ⟨st, q1, q2, q3, q4, q5, q6, q7⟩ := h.val k f hf
    refine ⟨st, q1, q2, q3, by rw [hseq]; exact q4, by rw [hwait]; exact q5, ?_, ?_⟩
    · rw [hpk, halike]
      · exact q6
      · intro p hp; exact ((hdB_iff _ _ _).1 hp).2.1
    · rw [hpk]
      exact q7.same (untold_sk _ _ hun)
  · rw [hpk, halike]
    · exact h.H
    · intro p hp; exact ((quB_iff _ _).1 hp).2.1
  · rw [hpk, halike]
    · exact h.O
    · intro p hp; exact ((othB_iff _).1 hp).2
  · rw [hseq]; exact h.br
  · show s.G.drop s.ended = untoldL x.gone.2.pk x.began
    rw [hpk, ← h.ends.2.1, h.G]
    unfold untoldL
    rw [List.filter_filter]
    have key : ∀ (l : List Nat), (∀ i ∈ l, i ∈ x.began) → (l.filterMap fun i => x.pk[i]?).filter (fun p => !decide (p.start + p.size ≤ x.now) && !p.told) = (l.filterMap fun i => pk'[i]?).filter fun p => !p.told := by
      intro l
      induction l with
      | nil => intro _; rfl
      | cons i l ih =>
        intro hl
        have ih' := ih fun j hj => hl j (List.mem_cons_of_mem _ hj)
        have hi := hl i (List.mem_cons_self ..)
        obtain ⟨p, hp, _⟩ := h.inv.bg i hi
        have h2 := hget i
        rw [hp, Option.map_some] at h2
        rw [List.filterMap_cons_some hp, List.filterMap_cons_some h2]
        by_cases g : fresh1 x.now p = true
        · have g' := g
          unfold fresh1 at g'
          simp only [Bool.and_eq_true, decide_eq_true_eq, Bool.not_eq_true'] at g'
          rw [List.filter_cons_of_neg (by simp [g'.2]), if_pos ⟨hi, g⟩, List.filter_cons_of_neg (by simp [tell]), ih']
        · rw [if_neg (fun c => g c.2), List.filter_cons, List.filter_cons, ih']
          have : (!decide (p.start + p.size ≤ x.now) && !p.told) = !p.told := by
            unfold fresh1 at g
            cases ht : p.told
            · rw [ht] at g
              simp at g
              simp; omega
            · simp
          rw [this]
    exact key x.began fun _ hi => hi
end
end Go.Proofs.YtcnmajndackohaaGreatDoor
