import Derived.Test.YtcnmajndackohaaGreatDoorMg06
/-
  Plain: what holds of a line still holds when a packet is brought, and a tick later.
-/
namespace Go.Proofs.YtcnmajndackohaaGreatDoor

/-- May it begin? -/
def El (now : Int) (p : Pk) : Prop := p.start < 0 ∧ p.dropped = false ∧ 0 ≤ p.ready ∧ p.ready ≤ now
theorem done_later {now : Int} {p : Pk} (h : done now p) : done (now + 1) p := by
  unfold done at *; omega

/-- Nothing waited for this deadline but what is ready just now. -/
theorem fresh {now : Int} {fl : List Stt} {pk : List Pk} (h : Bas now fl pk) {d : Int} (hw : sumOf (wk now fl d) pk ≤ sumOf (dm now fl d now) pk) : Jd now fl pk d := by
  have a : 0 ≤ sumOf (wk now fl d) pk := sumOf_nonneg fun p hp => wk_nonneg (h.sz p hp).1
  by_cases hz : sumOf (wk now fl d) pk = 0
  · exact .inl hz
  · right
    refine ⟨now, h.n0, Int.le_refl _, by omega, ?_, ?_⟩
    · have b : sumOf (wb now fl d) pk ≤ sumOf (wk now fl d) pk + sumOf (run now) pk := by
        rw [← sumOf_add]
        exact sumOf_le fun p hp => wb_le (h.sz p hp).1
      have c := run_seven h
      omega
    · intro p hp hc hr
      have c := (cnt_iff _ _ _ _).1 hc
      by_cases g : isOf fl p.flow < 2
      · exact g
      · have := h.aw p hp c.1 c.2.1 (by omega)
        omega

section push
variable {now : Int} {fl : List Stt} {pk : List Pk} {p : Pk}
/-- A packet that may be brought. -/
structure New (now : Int) (fl : List Stt) (pk : List Pk) (p : Pk) : Prop where
  sz : 1 ≤ p.size ∧ p.size ≤ 8
  st : p.start < 0
  dr : p.dropped = false
  fl : 0 ≤ p.flow → p.flow.toNat < fl.length ∧ isOf fl p.flow = 0 ∧ (p.ready < 0 ∨ now ≤ p.ready) ∧ ∀ st, fl[p.flow.toNat]? = some st → 0 ≤ p.ready → p.size ≤ st.f.am 0 ∧ confL st.f p.flow p.ready (pk.map Pk.sk).reverse p.size = true
theorem Bas.push (h : Bas now fl pk) (n : New now fl pk p) : Bas now fl (pk ++ [p]) := by
  refine ⟨h.n0, h.may, ?_, ?_, ?_, ?_, ?_, ?_, ?_⟩
  · intro q hq
    rcases List.mem_append.1 hq with hq | hq
    · exact h.sz q hq
    · obtain rfl := List.mem_singleton.1 hq; exact n.sz
  · intro q hq h0
    rcases List.mem_append.1 hq with hq | hq
    · exact h.own q hq h0
    · obtain rfl := List.mem_singleton.1 hq; exact (n.fl h0).1
  · intro k st hk
    rw [List.map_append, List.reverse_append]
    refine ⟨fun e hr => ?_, h.cf k st hk⟩
    have e' : p.flow = k := e
    have e2 : p.flow.toNat = k := by omega
    have := (n.fl (by omega)).2.2.2 st (by rw [e2]; exact hk) hr
    rw [e'] at this
    exact this
  · intro q hq h0
    rcases List.mem_append.1 hq with hq | hq
    · exact h.st q hq h0
    · obtain rfl := List.mem_singleton.1 hq; have := n.st; omega
  · intro q hq h0 h1 h2
    rcases List.mem_append.1 hq with hq | hq
    · exact h.lg q hq h0 h1 h2
    · obtain rfl := List.mem_singleton.1 hq; have := (n.fl h0).2.1; omega
  · intro q hq h0 h1 h2
    rcases List.mem_append.1 hq with hq | hq
    · exact h.aw q hq h0 h1 h2
    · obtain rfl := List.mem_singleton.1 hq; have := (n.fl h0).2.1; omega
  · rcases h.und with hd | ⟨l1, q, l2, e, h0, h1, d1, d2⟩
    · left
      intro q hq
      rcases List.mem_append.1 hq with hq | hq
      · exact hd q hq
      · obtain rfl := List.mem_singleton.1 hq; exact .inl n.st
    · right
      refine ⟨l1, q, l2 ++ [p], by rw [e]; simp, h0, h1, d1, fun x hx => ?_⟩
      rcases List.mem_append.1 hx with hx | hx
      · exact d2 x hx
      · obtain rfl := List.mem_singleton.1 hx; exact .inl n.st
theorem sumOf_snoc {α : Type} (g : α → Int) (l : List α) (x : α) : sumOf g (l ++ [x]) = sumOf g l + g x := by
  rw [sumOf_append]; simp [sumOf]
theorem Gd.push (h : Gd now fl pk) (n : New now fl pk p) : Gd now fl (pk ++ [p]) := by
  have hb := h.toBas.push n
  refine ⟨hb, h.fit, fun d => ?_, ?_⟩
  · have hr : run now p = 0 := run_done (.inl n.st)
    have hm : rem now p = p.size := by unfold rem; rw [if_pos n.st]
    by_cases hc : cnt now fl d p = true
    · have c := (cnt_iff _ _ _ _).1 hc
      have c2 := (n.fl c.1).2.2.1
      have ew : wk now fl d p = p.size := by unfold wk; rw [if_pos hc, hm]
      have eb : wb now fl d p = p.size := by unfold wb; rw [if_pos hc, hm]
      have ed : ∀ s, s ≤ now → dm now fl d s p = p.size := fun s hs => by unfold dm; rw [if_pos ⟨hc, by omega⟩]
      rcases h.j d with h0 | ⟨s, s0, s1, hd, hle, hna⟩
      · refine fresh hb ?_
        have := sumOf_nonneg (g := dm now fl d now) (l := pk) fun q hq => dm_nonneg (h.sz q hq).1
        rw [sumOf_snoc, sumOf_snoc, ew, ed now (Int.le_refl _)]
        omega
      · right
        have hsz := n.sz
        refine ⟨s, s0, s1, ?_, ?_, ?_⟩
        · rw [sumOf_snoc, ed s s1]; omega
        · rw [sumOf_snoc, sumOf_snoc, ed s s1, eb]; omega
        · intro q hq h1 h2
          rcases List.mem_append.1 hq with hq | hq
          · exact hna q hq h1 h2
          · obtain rfl := List.mem_singleton.1 hq; have := (n.fl c.1).2.1; omega
    · have ew : wk now fl d p = 0 := by unfold wk; rw [if_neg hc]
      have eb : wb now fl d p = 0 := by unfold wb; rw [if_neg hc, hr]
      have ed : ∀ s, dm now fl d s p = 0 := fun s => by unfold dm; rw [if_neg fun g => hc g.1]
      rcases h.j d with h0 | ⟨s, s0, s1, hd, hle, hna⟩
      · left; rw [sumOf_snoc, h0, ew]; decide
      · right
        refine ⟨s, s0, s1, ?_, ?_, ?_⟩
        · rw [sumOf_snoc, ed s]; omega
        · rw [sumOf_snoc, sumOf_snoc, ed s, eb]; omega
        · intro q hq h1 h2
          rcases List.mem_append.1 hq with hq | hq
          · exact hna q hq h1 h2
          · obtain rfl := List.mem_singleton.1 hq; exact absurd h1 hc
  · intro q hq h0 h1
    rcases List.mem_append.1 hq with hq | hq
    · exact h.ok q hq h0 h1
    · obtain rfl := List.mem_singleton.1 hq; have := n.st; omega
end push

/-- What is ready just at the next tick, with a deadline up to d. -/
def nw (now : Int) (fl : List Stt) (d : Int) (p : Pk) : Int := if cnt (now + 1) fl d p = true ∧ p.ready = now + 1 then p.size else 0
theorem dm_next {now : Int} {fl : List Stt} {d s : Int} (hs : s ≤ now + 1) (p : Pk) : dm (now + 1) fl d s p = dm now fl d s p + nw now fl d p := by
  have a := cnt_iff (now + 1) fl d p
  have b := cnt_iff now fl d p
  by_cases c : cnt (now + 1) fl d p = true
  · have a' := a.1 c
    by_cases e : p.ready = now + 1
    · have nb : cnt now fl d p = false := by
        rw [← Bool.not_eq_true]; intro g; have := b.1 g; omega
      simp [dm, nw, c, nb, e, hs]
    · have cb : cnt now fl d p = true := b.2 ⟨a'.1, a'.2.1, a'.2.2.1, by omega, a'.2.2.2.2⟩
      simp [dm, nw, c, cb, e]
  · have nb : cnt now fl d p = false := by
      rw [← Bool.not_eq_true]; intro g; exact c (by have := b.1 g; exact a.2 ⟨this.1, this.2.1, this.2.2.1, by omega, this.2.2.2.2⟩)
    have c' : cnt (now + 1) fl d p = false := by rw [← Bool.not_eq_true]; exact c
    simp [dm, nw, c', nb]
theorem dm_just {now : Int} {fl : List Stt} {d : Int} (p : Pk) : dm (now + 1) fl d (now + 1) p = nw now fl d p := by
  unfold dm nw
  have a := cnt_iff (now + 1) fl d p
  by_cases c : cnt (now + 1) fl d p = true
  · have a' := a.1 c
    by_cases e : p.ready = now + 1
    · rw [if_pos ⟨c, by omega⟩, if_pos ⟨c, e⟩]
    · rw [if_neg fun g => by omega, if_neg fun g => e g.2]
  · rw [if_neg fun g => c g.1, if_neg fun g => c g.1]
theorem cnt_next {now : Int} {fl : List Stt} {d : Int} {p : Pk} : cnt (now + 1) fl d p = true ↔ cnt now fl d p = true ∨ (cnt (now + 1) fl d p = true ∧ p.ready = now + 1) := by
  have a := cnt_iff (now + 1) fl d p
  have b := cnt_iff now fl d p
  constructor
  · intro c
    by_cases e : p.ready = now + 1
    · exact .inr ⟨c, e⟩
    · have a' := a.1 c
      exact .inl (b.2 ⟨a'.1, a'.2.1, a'.2.2.1, by omega, a'.2.2.2.2⟩)
  · rintro (c | c)
    · have := b.1 c; exact a.2 ⟨this.1, this.2.1, this.2.2.1, by omega, this.2.2.2.2⟩
    · exact c.1
/-- One that is not under way, a tick later. -/
theorem wb_still {now : Int} {fl : List Stt} {d : Int} {p : Pk} (hd : done now p) (hr : 0 ≤ p.start → p.ready ≤ now) : wb (now + 1) fl d p = wb now fl d p + nw now fl d p ∧ wk (now + 1) fl d p = wk now fl d p + nw now fl d p := by
  have b := cnt_iff now fl d p
  have r0 := run_done hd
  have r1 := run_done (done_later hd)
  unfold wb wk nw
  by_cases hs : p.start < 0
  · have e0 : rem now p = p.size := by unfold rem; rw [if_pos hs]
    have e1 : rem (now + 1) p = p.size := by unfold rem; rw [if_pos hs]
    rw [e0, e1, r0, r1]
    by_cases c : cnt (now + 1) fl d p = true
    · by_cases e : p.ready = now + 1
      · have nb : ¬ cnt now fl d p = true := fun g => by have := b.1 g; omega
        rw [if_pos c, if_neg nb, if_pos ⟨c, e⟩]; omega
      · have cb : cnt now fl d p = true := by
          rcases cnt_next.1 c with g | g
          · exact g
          · exact absurd g.2 e
        rw [if_pos c, if_pos cb, if_neg fun g => e g.2]; omega
    · have nb : ¬ cnt now fl d p = true := fun g => c (cnt_next.2 (.inl g))
      rw [if_neg c, if_neg nb, if_neg fun g => c g.1]; omega
  · have e0 : rem now p = 0 := by
      unfold done at hd; unfold rem; rw [if_neg hs, if_neg (by omega)]
    have e1 : rem (now + 1) p = 0 := by
      unfold done at hd; unfold rem; rw [if_neg hs, if_neg (by omega)]
    have := hr (by omega)
    rw [e0, e1, r0, r1, if_neg (c := cnt (now + 1) fl d p = true ∧ p.ready = now + 1) fun g => by omega]
    simp
/-- The one that is under way, a tick later. -/
theorem wb_under {now : Int} {fl : List Stt} {d : Int} {p : Pk} (h0 : 0 ≤ p.start) (h1 : now < p.start + p.size) (hr : p.ready ≤ now) : wb (now + 1) fl d p = wb now fl d p + nw now fl d p - 1 ∧ nw now fl d p = 0 ∧ wk (now + 1) fl d p ≤ wk now fl d p := by
  have en : nw now fl d p = 0 := by unfold nw; rw [if_neg fun g => by omega]
  have e0 : rem now p = p.start + p.size - now := by unfold rem; rw [if_neg (by omega), if_pos h1]
  have r0 : run now p = p.start + p.size - now := by unfold run; rw [if_neg (by omega), if_pos h1]
  have e1 : rem (now + 1) p = p.start + p.size - now - 1 := by
    unfold rem; rw [if_neg (by omega)]; split <;> omega
  have r1 : run (now + 1) p = p.start + p.size - now - 1 := by
    unfold run; rw [if_neg (by omega)]; split <;> omega
  refine ⟨?_, en, ?_⟩
  · rw [en]; unfold wb; rw [e0, e1, r0, r1]; split <;> split <;> omega
  · unfold wk; rw [e0, e1]
    by_cases c : cnt (now + 1) fl d p = true
    · rcases cnt_next.1 c with g | g
      · rw [if_pos c, if_pos g]; omega
      · omega
    · rw [if_neg c]; split <;> omega

section tick
variable {now : Int} {fl : List Stt} {pk : List Pk}
/-- What the next tick leaves of a deadline, whatever went. -/
theorem j_next {pk' : List Pk} (hb : Bas (now + 1) fl pk') {d : Int} (hj : Jd now fl pk d)
    (hwk : sumOf (wk (now + 1) fl d) pk' ≤ sumOf (wk now fl d) pk + sumOf (nw now fl d) pk')
    (hdm : ∀ s, s ≤ now + 1 → sumOf (dm (now + 1) fl d s) pk' = sumOf (dm now fl d s) pk + sumOf (nw now fl d) pk')
    (hn : 0 ≤ sumOf (nw now fl d) pk')
    (hwb : sumOf (wk now fl d) pk ≠ 0 → sumOf (wb (now + 1) fl d) pk' = sumOf (wb now fl d) pk + sumOf (nw now fl d) pk' - 1)
    (hna : ∀ s, (∀ p ∈ pk, cnt now fl d p = true → s ≤ p.ready → isOf fl p.flow < 2) → ∀ p ∈ pk', cnt now fl d p = true → s ≤ p.ready → isOf fl p.flow < 2) : Jd (now + 1) fl pk' d := by
  by_cases h0 : sumOf (wk now fl d) pk = 0
  · refine fresh hb ?_
    rw [sumOf_congr (g := dm (now + 1) fl d (now + 1)) fun p _ => dm_just p]
    omega
  · rcases hj with hj | ⟨s, s0, s1, hd, hle, ha⟩
    · exact absurd hj h0
    · right
      refine ⟨s, s0, by omega, ?_, ?_, ?_⟩
      · rw [hdm s (by omega)]; omega
      · rw [hdm s (by omega), hwb h0]; omega
      · intro p hp hc hr
        rcases cnt_next.1 hc with g | g
        · exact hna s ha p hp g hr
        · have c := (cnt_iff _ _ _ _).1 hc
          by_cases k : isOf fl p.flow < 2
          · exact k
          · have := hb.aw p hp c.1 c.2.1 (by omega)
            omega
theorem nw_nonneg {d : Int} {p : Pk} (h : 1 ≤ p.size) : 0 ≤ nw now fl d p := by unfold nw; split <;> omega

/-- A tick later, of the same packets. -/
theorem Bas.later (h : Bas now fl pk) (hu : Und (now + 1) pk) : Bas (now + 1) fl pk :=
  ⟨by have := h.n0; omega, h.may, h.sz, h.own, h.cf, fun p hp h0 => by have := h.st p hp h0; omega, fun p hp a b c => by have := h.lg p hp a b c; omega, fun p hp a b c => by have := h.aw p hp a b c; omega, hu⟩
theorem Bas.busy (h : Bas now fl pk) {l1 l2 : List Pk} {p : Pk} (e : pk = l1 ++ p :: l2) (h0 : 0 ≤ p.start) (h1 : now < p.start + p.size) (d1 : ∀ q ∈ l1, done now q) (d2 : ∀ q ∈ l2, done now q) : Bas (now + 1) fl pk := by
  refine h.later ?_
  by_cases g : now + 1 < p.start + p.size
  · exact .inr ⟨l1, p, l2, e, h0, g, fun q hq => done_later (d1 q hq), fun q hq => done_later (d2 q hq)⟩
  · left
    intro q hq
    rw [e] at hq
    rcases List.mem_append.1 hq with hq | hq
    · exact done_later (d1 q hq)
    · rcases List.mem_cons.1 hq with rfl | hq
      · exact .inr (by omega)
      · exact done_later (d2 q hq)
theorem Gd.busy (h : Gd now fl pk) {l1 l2 : List Pk} {p : Pk} (e : pk = l1 ++ p :: l2) (h0 : 0 ≤ p.start) (h1 : now < p.start + p.size) (d1 : ∀ q ∈ l1, done now q) (d2 : ∀ q ∈ l2, done now q) : Gd (now + 1) fl pk := by
  have hb := h.toBas.busy e h0 h1 d1 d2
  refine ⟨hb, h.fit, fun d => ?_, h.ok⟩
  have hp : p ∈ pk := by rw [e]; simp
  have m1 : ∀ q ∈ l1, q ∈ pk := fun q hq => by rw [e]; simp [hq]
  have m2 : ∀ q ∈ l2, q ∈ pk := fun q hq => by rw [e]; simp [hq]
  have hu := wb_under (fl := fl) (d := d) h0 h1 (by have := h.st p hp h0; omega)
  have s1 : ∀ q ∈ l1, _ := fun q hq => wb_still (fl := fl) (d := d) (d1 q hq) (fun g => by have := h.st q (m1 q hq) g; omega)
  have s2 : ∀ q ∈ l2, _ := fun q hq => wb_still (fl := fl) (d := d) (d2 q hq) (fun g => by have := h.st q (m2 q hq) g; omega)
  refine j_next hb (h.j d) ?_ (fun s hs => ?_) (sumOf_nonneg fun q hq => nw_nonneg (h.sz q hq).1) (fun _ => ?_) (fun s ha => ha)
  · rw [e]
    simp only [sumOf_append, sumOf]
    rw [sumOf_congr (l := l1) fun q hq => (s1 q hq).2, sumOf_congr (l := l2) fun q hq => (s2 q hq).2, sumOf_add, sumOf_add]
    omega
  · rw [← sumOf_add]; exact sumOf_congr fun q _ => dm_next hs q
  · rw [e]
    simp only [sumOf_append, sumOf]
    rw [sumOf_congr (l := l1) fun q hq => (s1 q hq).1, sumOf_congr (l := l2) fun q hq => (s2 q hq).1, sumOf_add, sumOf_add]
    omega
/-- If no packet of a flow may begin and nothing is under way nothing waits for any deadline. -/
theorem none_waits {d : Int} (hall : ∀ q ∈ pk, done now q) (hel : ∀ q ∈ pk, 0 ≤ q.flow → ¬ El now q) : sumOf (wk now fl d) pk = 0 := by
  refine sumOf_zero fun q hq => ?_
  unfold wk
  split
  · rename_i c
    have c' := (cnt_iff _ _ _ _).1 c
    have hd := hall q hq
    have he := hel q hq c'.1
    unfold El at he
    unfold done at hd
    unfold rem
    rw [if_neg (fun g => he ⟨g, c'.2.1, c'.2.2.1, c'.2.2.2.1⟩), if_neg]
    intro g
    rcases hd with hd | hd
    · exact he ⟨hd, c'.2.1, c'.2.2.1, c'.2.2.2.1⟩
    · omega
  · rfl
theorem Bas.idle (h : Bas now fl pk) (hall : ∀ q ∈ pk, done now q) : Bas (now + 1) fl pk := h.later (.inl fun q hq => done_later (hall q hq))
theorem Gd.idle (h : Gd now fl pk) (hall : ∀ q ∈ pk, done now q) (hel : ∀ q ∈ pk, 0 ≤ q.flow → ¬ El now q) : Gd (now + 1) fl pk := by
  have hb := h.toBas.idle hall
  refine ⟨hb, h.fit, fun d => ?_, h.ok⟩
  have hz := none_waits (fl := fl) (d := d) hall hel
  have hs : ∀ q ∈ pk, _ := fun q hq => wb_still (fl := fl) (d := d) (hall q hq) (fun g => by have := h.st q hq g; omega)
  refine j_next hb (h.j d) ?_ (fun s hs => ?_) (sumOf_nonneg fun q hq => nw_nonneg (h.sz q hq).1) (fun g => absurd hz g) (fun s ha => ha)
  · rw [sumOf_congr fun q hq => (hs q hq).2, sumOf_add]; omega
  · rw [← sumOf_add]; exact sumOf_congr fun q _ => dm_next hs q

/-- One begins. -/
def beg (now : Int) (p : Pk) : Pk := { p with start := now }
theorem mem_beg {l1 l2 : List Pk} {p q : Pk} (hq : q ∈ l1 ++ beg now p :: l2) : q = beg now p ∨ q ∈ l1 ++ p :: l2 := by
  rcases List.mem_append.1 hq with hq | hq
  · exact .inr (List.mem_append.2 (.inl hq))
  · rcases List.mem_cons.1 hq with hq | hq
    · exact .inl hq
    · exact .inr (List.mem_append.2 (.inr (List.mem_cons_of_mem _ hq)))
theorem Bas.begins {l1 l2 : List Pk} {p : Pk} (h : Bas now fl (l1 ++ p :: l2)) (hall : ∀ q ∈ l1 ++ p :: l2, done now q) (he : El now p) : Bas (now + 1) fl (l1 ++ beg now p :: l2) := by
  have hp : p ∈ l1 ++ p :: l2 := by simp
  have hz := h.sz p hp
  have hn := h.n0
  refine ⟨by omega, h.may, ?_, ?_, ?_, ?_, ?_, ?_, ?_⟩
  · intro q hq
    rcases mem_beg hq with rfl | hq
    · exact hz
    · exact h.sz q hq
  · intro q hq h0
    rcases mem_beg hq with rfl | hq
    · exact h.own p hp h0
    · exact h.own q hq h0
  · intro k st hk
    have := h.cf k st hk
    rw [List.map_append, List.map_cons] at this ⊢
    exact this
  · intro q hq h0
    rcases mem_beg hq with rfl | hq
    · have := he.2.2
      show 0 ≤ p.ready ∧ p.ready ≤ now ∧ now < now + 1
      omega
    · have := h.st q hq h0; omega
  · intro q hq a b c
    rcases mem_beg hq with rfl | hq
    · have := h.lg p hp a b c
      show 0 ≤ p.ready ∧ p.ready ≤ now + 1
      omega
    · have := h.lg q hq a b c; omega
  · intro q hq a b c
    rcases mem_beg hq with rfl | hq
    · have := h.aw p hp a b c
      show 0 ≤ p.ready ∧ p.ready < now + 1
      omega
    · have := h.aw q hq a b c; omega
  · have d1 : ∀ q ∈ l1, done (now + 1) q := fun q hq => done_later (hall q (by simp [hq]))
    have d2 : ∀ q ∈ l2, done (now + 1) q := fun q hq => done_later (hall q (by simp [hq]))
    by_cases g : p.size = 1
    · left
      intro q hq
      rcases List.mem_append.1 hq with hq | hq
      · exact d1 q hq
      · rcases List.mem_cons.1 hq with rfl | hq
        · right; show now + p.size ≤ now + 1; omega
        · exact d2 q hq
    · exact .inr ⟨l1, beg now p, l2, rfl, hn, by show now + 1 < now + p.size; omega, d1, d2⟩
theorem Gd.begins {l1 l2 : List Pk} {p : Pk} (h : Gd now fl (l1 ++ p :: l2)) (hall : ∀ q ∈ l1 ++ p :: l2, done now q) (he : El now p)
    (hmin : ∀ q ∈ l1 ++ p :: l2, 0 ≤ q.flow → El now q → 0 ≤ p.flow ∧ p.ready + dueOf fl p.flow ≤ q.ready + dueOf fl q.flow) : Gd (now + 1) fl (l1 ++ beg now p :: l2) := by
  have hb := h.toBas.begins hall he
  have hp : p ∈ l1 ++ p :: l2 := by simp
  have hz := h.sz p hp
  have hn := h.n0
  obtain ⟨he1, he2, he3, he4⟩ := he
  refine ⟨hb, h.fit, fun d => ?_, ?_⟩
  · have m1 : ∀ q ∈ l1, q ∈ l1 ++ p :: l2 := fun q hq => by simp [hq]
    have m2 : ∀ q ∈ l2, q ∈ l1 ++ p :: l2 := fun q hq => by simp [hq]
    have s1 : ∀ q ∈ l1, _ := fun q hq => wb_still (fl := fl) (d := d) (hall q (m1 q hq)) (fun g => by have := h.st q (m1 q hq) g; omega)
    have s2 : ∀ q ∈ l2, _ := fun q hq => wb_still (fl := fl) (d := d) (hall q (m2 q hq)) (fun g => by have := h.st q (m2 q hq) g; omega)
    have cb : ∀ n, cnt n fl d (beg now p) = cnt n fl d p := fun n => rfl
    have cc : cnt (now + 1) fl d p = cnt now fl d p := by
      rw [Bool.eq_iff_iff]
      constructor
      · intro c
        rcases cnt_next.1 c with g | g
        · exact g
        · omega
      · exact fun c => cnt_next.2 (.inl c)
    have en : nw now fl d (beg now p) = 0 := by
      unfold nw; rw [if_neg]; rintro ⟨_, g⟩
      have : p.ready = now + 1 := g
      omega
    have rm : rem now p = p.size := by unfold rem; rw [if_pos he1]
    have rm1 : rem (now + 1) (beg now p) = p.size - 1 := by
      have e1 : (beg now p).start = now := rfl
      have e2 : (beg now p).size = p.size := rfl
      unfold rem; rw [e1, e2, if_neg (by omega)]; split <;> omega
    refine j_next hb (h.j d) ?_ (fun s hs => ?_) (sumOf_nonneg fun q hq => nw_nonneg (hb.sz q hq).1) (fun hne => ?_) (fun s ha q hq => ?_)
    · simp only [sumOf_append, sumOf]
      rw [sumOf_congr (l := l1) fun q hq => (s1 q hq).2, sumOf_congr (l := l2) fun q hq => (s2 q hq).2, sumOf_add, sumOf_add, en]
      have : wk (now + 1) fl d (beg now p) ≤ wk now fl d p := by
        unfold wk; rw [cb, cc, rm, rm1]; split <;> omega
      omega
    · simp only [sumOf_append, sumOf]
      rw [sumOf_congr (l := l1) fun q _ => dm_next hs q, sumOf_congr (l := l2) fun q _ => dm_next hs q, sumOf_add, sumOf_add, dm_next hs (beg now p)]
      have : dm now fl d s (beg now p) = dm now fl d s p := rfl
      omega
    · have hw : 0 < sumOf (wk now fl d) (l1 ++ p :: l2) := by
        have := sumOf_nonneg (g := wk now fl d) (l := l1 ++ p :: l2) fun q hq => wk_nonneg (h.sz q hq).1
        omega
      obtain ⟨q, hq, hpos⟩ := sumOf_pos hw
      have hc : cnt now fl d q = true ∧ 0 < rem now q := by
        unfold wk at hpos
        split at hpos
        · rename_i c; exact ⟨c, hpos⟩
        · omega
      have c := (cnt_iff _ _ _ _).1 hc.1
      have hq0 : q.start < 0 := by
        rcases hall q hq with g | g
        · exact g
        · by_cases k : q.start < 0
          · exact k
          · have := hc.2
            unfold rem at this
            rw [if_neg k, if_neg (by omega)] at this
            omega
      have hm := hmin q hq c.1 ⟨hq0, c.2.1, c.2.2.1, c.2.2.2.1⟩
      have cp : cnt now fl d p = true := (cnt_iff _ _ _ _).2 ⟨hm.1, he2, he3, he4, by omega⟩
      simp only [sumOf_append, sumOf]
      rw [sumOf_congr (l := l1) fun q hq => (s1 q hq).1, sumOf_congr (l := l2) fun q hq => (s2 q hq).1, sumOf_add, sumOf_add, en]
      have : wb (now + 1) fl d (beg now p) = wb now fl d p - 1 := by
        unfold wb; rw [cb, cc, rm, rm1, if_pos cp, if_pos cp]
      omega
    · rcases mem_beg hq with rfl | hq
      · exact fun c hr => ha p hp c hr
      · exact ha q hq
  · intro q hq h0 h1
    rcases mem_beg hq with rfl | hq
    · show now + p.size ≤ p.ready + dueOf fl p.flow
      have cp : cnt now fl (p.ready + dueOf fl p.flow) p = true := (cnt_iff _ _ _ _).2 ⟨h0, he2, he3, he4, Int.le_refl _⟩
      have rm : rem now p = p.size := by unfold rem; rw [if_pos he1]
      have ew : wk now fl (p.ready + dueOf fl p.flow) p = p.size := by unfold wk; rw [if_pos cp, rm]
      have eb : wb now fl (p.ready + dueOf fl p.flow) p = p.size := by unfold wb; rw [if_pos cp, rm]
      have a := sumOf_ge_mem (g := wk now fl (p.ready + dueOf fl p.flow)) (l := l1 ++ p :: l2) (fun q hq => wk_nonneg (h.sz q hq).1) hp
      have b := sumOf_ge_mem (g := wb now fl (p.ready + dueOf fl p.flow)) (l := l1 ++ p :: l2) (fun q hq => wb_nonneg (h.sz q hq).1) hp
      have c := in_time h (d := p.ready + dueOf fl p.flow) (by omega)
      omega
    · exact h.ok q hq h0 h1
end tick
end Go.Proofs.YtcnmajndackohaaGreatDoor
/-
  Plain: what holds of a line still holds when flows go away, come, are torn down, and when packets are told.
-/
namespace Go.Proofs.YtcnmajndackohaaGreatDoor

/-- One that lingers is away. -/
def gone1 (s : Stt) : Stt := if s.is = 1 then { s with is := 2 } else s
theorem gone1_f (s : Stt) : (gone1 s).f = s.f := by unfold gone1; split <;> rfl
theorem due_gone (fl : List Stt) (k : Int) : dueOf (fl.map gone1) k = dueOf fl k := by
  unfold dueOf
  rw [List.getElem?_map]
  cases fl[k.toNat]? with
  | none => rfl
  | some s => show (gone1 s).f.d = s.f.d; rw [gone1_f]
theorem is_gone (fl : List Stt) (k : Int) : isOf (fl.map gone1) k = if isOf fl k = 1 then 2 else isOf fl k := by
  unfold isOf
  rw [List.getElem?_map]
  cases fl[k.toNat]? with
  | none => rfl
  | some s =>
    show (gone1 s).is = if s.is = 1 then 2 else s.is
    unfold gone1; split <;> rfl
theorem e_nonneg {f : Fl} (h : f.may) (u : Int) : 0 ≤ f.e u := am_nonneg h (u - f.d)
theorem tot_gone {fl : List Stt} (h : ∀ st ∈ fl, st.f.may) (u : Int) : tot u (lv (fl.map gone1)) ≤ tot u (lv fl) := by
  induction fl with
  | nil => simp [lv]
  | cons s fl ih =>
    have a := ih fun st hst => h st (List.mem_cons_of_mem _ hst)
    have b := e_nonneg (h s (List.mem_cons_self ..)) u
    have c : ∀ (x : Stt) (L : List Stt), tot u (lv (x :: L)) = (if x.is < 2 then x.f.e u else 0) + tot u (lv L) := fun x L => by
      unfold lv
      by_cases c : x.is < 2
      · rw [List.filter_cons_of_pos (by simpa using c), if_pos c]; simp [tot]
      · rw [List.filter_cons_of_neg (by simpa using c), if_neg c]; simp
    rw [List.map_cons, c, c, gone1_f]
    have d : (if (gone1 s).is < 2 then s.f.e u else 0) ≤ if s.is < 2 then s.f.e u else 0 := by
      unfold gone1
      by_cases g : s.is = 1
      · rw [if_pos g, if_neg (by show ¬ (2 : Int) < 2; omega), if_pos (by omega)]; omega
      · rw [if_neg g]; omega
    omega

section moves
variable {now : Int} {fl : List Stt} {pk : List Pk}
theorem Bas.away (h : Bas now fl pk) (hel : ∀ q ∈ pk, 0 ≤ q.flow → ¬ El now q) : Bas now (fl.map gone1) pk := by
  refine ⟨h.n0, ?_, h.sz, ?_, ?_, h.st, ?_, ?_, h.und⟩
  · intro st hst
    obtain ⟨s, hs, rfl⟩ := List.mem_map.1 hst
    rw [gone1_f]; exact h.may s hs
  · intro p hp h0; rw [List.length_map]; exact h.own p hp h0
  · intro k st hk
    rw [List.getElem?_map] at hk
    obtain ⟨s, hs, rfl⟩ := Option.map_eq_some_iff.1 hk
    rw [gone1_f]; exact h.cf k s hs
  · intro p hp a b c
    rw [is_gone] at c
    split at c <;> omega
  · intro p hp a b c
    rw [is_gone] at c
    split at c
    · rename_i g
      have := h.lg p hp a b g
      by_cases e : p.ready = now
      · exfalso
        by_cases k : p.start < 0
        · exact hel p hp a ⟨k, b, this.1, this.2⟩
        · have := h.st p hp (by omega); omega
      · omega
    · exact h.aw p hp a b c
theorem cnt_gone (d : Int) (p : Pk) : cnt now (fl.map gone1) d p = cnt now fl d p := by unfold cnt; rw [due_gone]
theorem Gd.away (h : Gd now fl pk) (hel : ∀ q ∈ pk, 0 ≤ q.flow → ¬ El now q) (hun : ∀ q ∈ pk, 0 ≤ q.flow → done now q) : Gd now (fl.map gone1) pk := by
  refine ⟨h.toBas.away hel, fit_mono h.fit (tot_gone h.may), fun d => .inl ?_, ?_⟩
  · refine sumOf_zero fun q hq => ?_
    unfold wk
    split
    · rename_i c
      have c' := (cnt_iff _ _ _ _).1 c
      have hd := hun q hq c'.1
      have he := hel q hq c'.1
      unfold El at he
      unfold done at hd
      unfold rem
      rw [if_neg (fun g => he ⟨g, c'.2.1, c'.2.2.1, c'.2.2.2.1⟩), if_neg]
      intro g
      rcases hd with hd | hd
      · exact he ⟨hd, c'.2.1, c'.2.2.1, c'.2.2.2.1⟩
      · omega
    · rfl
  · intro p hp a b
    rw [due_gone]; exact h.ok p hp a b

/-- Flows that agree on each packet's own. -/
theorem j_flows {fl' : List Stt} {d : Int} (hd : ∀ p ∈ pk, 0 ≤ p.flow → dueOf fl' p.flow = dueOf fl p.flow) (hi : ∀ p ∈ pk, 0 ≤ p.flow → isOf fl p.flow < 2 → isOf fl' p.flow < 2) (h : Jd now fl pk d) : Jd now fl' pk d := by
  have hc : ∀ p ∈ pk, cnt now fl' d p = cnt now fl d p := fun p hp => by
    rw [Bool.eq_iff_iff, cnt_iff, cnt_iff]
    constructor
    · rintro ⟨a, b, c, e, f⟩; rw [hd p hp a] at f; exact ⟨a, b, c, e, f⟩
    · rintro ⟨a, b, c, e, f⟩; rw [← hd p hp a] at f; exact ⟨a, b, c, e, f⟩
  have hw : sumOf (wk now fl' d) pk = sumOf (wk now fl d) pk := sumOf_congr fun p hp => by unfold wk; rw [hc p hp]
  have hb : sumOf (wb now fl' d) pk = sumOf (wb now fl d) pk := sumOf_congr fun p hp => by unfold wb; rw [hc p hp]
  have hm : ∀ s, sumOf (dm now fl' d s) pk = sumOf (dm now fl d s) pk := fun s => sumOf_congr fun p hp => by unfold dm; rw [hc p hp]
  unfold Jd
  rw [hw, hb]
  rcases h with h | ⟨s, s0, s1, h1, h2, h3⟩
  · exact .inl h
  · refine .inr ⟨s, s0, s1, by rw [hm]; exact h1, by rw [hm]; exact h2, fun p hp c hr => ?_⟩
    rw [hc p hp] at c
    exact hi p hp ((cnt_iff _ _ _ _).1 c).1 (h3 p hp c hr)

theorem Cfm_none {f : Fl} {k : Int} : ∀ {l : List Sk}, (∀ x ∈ l, x.flow ≠ k) → Cfm f k l
  | [], _ => trivial
  | p :: _, h => ⟨fun e => absurd e (h p (List.mem_cons_self ..)), Cfm_none fun x hx => h x (List.mem_cons_of_mem _ hx)⟩
theorem get_snoc {α : Type} {l : List α} {x y : α} {k : Nat} (h : (l ++ [x])[k]? = some y) : l[k]? = some y ∨ (k = l.length ∧ y = x) := by
  rcases Nat.lt_or_ge k l.length with g | g
  · rw [List.getElem?_append_left g] at h; exact .inl h
  · rw [List.getElem?_append_right g] at h
    have : k - l.length = 0 := by
      by_cases e : k - l.length = 0
      · exact e
      · rw [List.getElem?_eq_none (by simp; omega)] at h; cases h
    rw [this] at h
    exact .inr ⟨by omega, (Option.some.inj h).symm⟩
/-- A flow comes. -/
theorem Bas.comes (h : Bas now fl pk) {f : Fl} (hf : f.may) : Bas now (fl ++ [⟨f, 0⟩]) pk := by
  have get : ∀ p ∈ pk, 0 ≤ p.flow → (fl ++ [⟨f, 0⟩])[p.flow.toNat]? = fl[p.flow.toNat]? := fun p hp h0 => List.getElem?_append_left (h.own p hp h0)
  have hi : ∀ p ∈ pk, 0 ≤ p.flow → isOf (fl ++ [⟨f, 0⟩]) p.flow = isOf fl p.flow := fun p hp h0 => by unfold isOf; rw [get p hp h0]
  refine ⟨h.n0, ?_, h.sz, ?_, ?_, h.st, ?_, ?_, h.und⟩
  · intro st hst
    rcases List.mem_append.1 hst with hst | hst
    · exact h.may st hst
    · obtain rfl := List.mem_singleton.1 hst; exact hf
  · intro p hp h0; have := h.own p hp h0; simp; omega
  · intro k st hk
    rcases get_snoc hk with hk | ⟨rfl, rfl⟩
    · exact h.cf k st hk
    · refine Cfm_none fun x hx => ?_
      rw [List.mem_reverse, List.mem_map] at hx
      obtain ⟨p, hp, rfl⟩ := hx
      show p.flow ≠ _
      intro e
      have := h.own p hp (by omega)
      omega
  · intro p hp a b c
    rw [hi p hp a] at c; exact h.lg p hp a b c
  · intro p hp a b c
    rw [hi p hp a] at c; exact h.aw p hp a b c
theorem lv_comes (fl : List Stt) (f : Fl) : lv (fl ++ [⟨f, 0⟩]) = lv fl ++ [f] := by
  unfold lv; rw [List.filter_append, List.map_append]; rfl
theorem Gd.comes (h : Gd now fl pk) {f : Fl} (hf : f.may) (hfit : Fit (f :: lv fl)) : Gd now (fl ++ [⟨f, 0⟩]) pk := by
  have get : ∀ p ∈ pk, 0 ≤ p.flow → (fl ++ [⟨f, 0⟩])[p.flow.toNat]? = fl[p.flow.toNat]? := fun p hp h0 => List.getElem?_append_left (h.own p hp h0)
  have hi : ∀ p ∈ pk, 0 ≤ p.flow → isOf (fl ++ [⟨f, 0⟩]) p.flow = isOf fl p.flow := fun p hp h0 => by unfold isOf; rw [get p hp h0]
  have hd : ∀ p ∈ pk, 0 ≤ p.flow → dueOf (fl ++ [⟨f, 0⟩]) p.flow = dueOf fl p.flow := fun p hp h0 => by unfold dueOf; rw [get p hp h0]
  refine ⟨h.toBas.comes hf, ?_, fun d => j_flows hd (fun p hp h0 k => by rw [hi p hp h0]; exact k) (h.j d), ?_⟩
  · refine fit_mono hfit fun u => ?_
    rw [lv_comes, tot_append]
    simp only [tot]; omega
  · intro p hp a b
    rw [hd p hp a]; exact h.ok p hp a b

/-- What a change of packets that is not seen leaves. -/
structure Same (now : Int) (h : Pk → Pk) : Prop where
  sk : ∀ p, (h p).sk = p.sk
  st : ∀ p, (h p).start = p.start
  dr : ∀ p, (h p).dropped = false → p.dropped = false
  rd : ∀ p, p.dropped = false → (h p).dropped = true → p.start < 0 ∧ (p.ready < 0 ∨ now < p.ready)
theorem Same.flow {h : Pk → Pk} (s : Same now h) (p : Pk) : (h p).flow = p.flow := congrArg Sk.flow (s.sk p)
theorem Same.size {h : Pk → Pk} (s : Same now h) (p : Pk) : (h p).size = p.size := congrArg Sk.size (s.sk p)
theorem Same.ready {h : Pk → Pk} (s : Same now h) (p : Pk) : (h p).ready = p.ready := congrArg Sk.ready (s.sk p)
theorem Same.done {h : Pk → Pk} (s : Same now h) {p : Pk} (hd : done now p) : Go.Proofs.YtcnmajndackohaaGreatDoor.done now (h p) := by
  unfold Go.Proofs.YtcnmajndackohaaGreatDoor.done at *; rw [s.st, s.size]; exact hd
theorem Bas.same (b : Bas now fl pk) {h : Pk → Pk} (s : Same now h) : Bas now fl (pk.map h) := by
  refine ⟨b.n0, b.may, ?_, ?_, ?_, ?_, ?_, ?_, ?_⟩
  · intro q hq; obtain ⟨p, hp, rfl⟩ := List.mem_map.1 hq; rw [s.size]; exact b.sz p hp
  · intro q hq; obtain ⟨p, hp, rfl⟩ := List.mem_map.1 hq; rw [s.flow]; exact b.own p hp
  · intro k st hk
    rw [List.map_map, show Pk.sk ∘ h = Pk.sk from funext s.sk]
    exact b.cf k st hk
  · intro q hq; obtain ⟨p, hp, rfl⟩ := List.mem_map.1 hq; rw [s.st, s.ready]; exact b.st p hp
  · intro q hq; obtain ⟨p, hp, rfl⟩ := List.mem_map.1 hq; rw [s.flow, s.ready]; exact fun x y z => b.lg p hp x (s.dr p y) z
  · intro q hq; obtain ⟨p, hp, rfl⟩ := List.mem_map.1 hq; rw [s.flow, s.ready]; exact fun x y z => b.aw p hp x (s.dr p y) z
  · rcases b.und with hd | ⟨l1, p, l2, e, h0, h1, d1, d2⟩
    · left; intro q hq; obtain ⟨p, hp, rfl⟩ := List.mem_map.1 hq; exact s.done (hd p hp)
    · right
      refine ⟨l1.map h, h p, l2.map h, by rw [e]; simp, by rw [s.st]; exact h0, by rw [s.st, s.size]; exact h1, fun q hq => ?_, fun q hq => ?_⟩
      · obtain ⟨p, hp, rfl⟩ := List.mem_map.1 hq; exact s.done (d1 p hp)
      · obtain ⟨p, hp, rfl⟩ := List.mem_map.1 hq; exact s.done (d2 p hp)
theorem Same.cnt {h : Pk → Pk} (s : Same now h) (d : Int) (p : Pk) : cnt now fl d (h p) = cnt now fl d p := by
  rw [Bool.eq_iff_iff, cnt_iff, cnt_iff, s.flow, s.ready]
  constructor
  · rintro ⟨a, b, c⟩; exact ⟨a, s.dr p b, c⟩
  · rintro ⟨a, b, c, e, f⟩
    refine ⟨a, ?_, c, e, f⟩
    cases g : (h p).dropped
    · rfl
    · have := s.rd p b g; omega
theorem Gd.same (g : Gd now fl pk) {h : Pk → Pk} (s : Same now h) : Gd now fl (pk.map h) := by
  have hr : ∀ p, rem now (h p) = rem now p := fun p => by unfold rem; rw [s.st, s.size]
  have hu : ∀ p, run now (h p) = run now p := fun p => by unfold run; rw [s.st, s.size]
  refine ⟨g.toBas.same s, g.fit, fun d => ?_, ?_⟩
  · have hw : sumOf (wk now fl d) (pk.map h) = sumOf (wk now fl d) pk := by
      rw [sumOf_map]; exact sumOf_congr fun p _ => by unfold wk; rw [s.cnt, hr]
    have hb : sumOf (wb now fl d) (pk.map h) = sumOf (wb now fl d) pk := by
      rw [sumOf_map]; exact sumOf_congr fun p _ => by unfold wb; rw [s.cnt, hr, hu]
    have hm : ∀ t, sumOf (dm now fl d t) (pk.map h) = sumOf (dm now fl d t) pk := fun t => by
      rw [sumOf_map]; exact sumOf_congr fun p _ => by unfold dm; rw [s.cnt, s.ready, s.size]
    unfold Jd
    rw [hw, hb]
    rcases g.j d with k | ⟨t, s0, s1, h1, h2, h3⟩
    · exact .inl k
    · refine .inr ⟨t, s0, s1, by rw [hm]; exact h1, by rw [hm]; exact h2, fun q hq c hq2 => ?_⟩
      obtain ⟨p, hp, rfl⟩ := List.mem_map.1 hq
      rw [s.cnt] at c
      rw [s.ready] at hq2
      rw [s.flow]
      exact h3 p hp c hq2
  · intro q hq
    obtain ⟨p, hp, rfl⟩ := List.mem_map.1 hq
    rw [s.flow, s.st, s.size, s.ready]
    exact g.ok p hp

/-- A packet of a flow that is torn down. -/
def drp (now k : Int) (p : Pk) : Pk := if p.flow = k ∧ p.start < 0 ∧ (p.ready < 0 ∨ now < p.ready) then { p with dropped := true } else p
theorem same_drp (k : Int) : Same now (drp now k) := by
  refine ⟨fun p => ?_, fun p => ?_, fun p => ?_, fun p => ?_⟩
  · unfold drp; split <;> rfl
  · unfold drp; split <;> rfl
  · unfold drp; split
    · intro e; cases e
    · exact id
  · unfold drp; split
    · rename_i g; exact fun _ _ => g.2
    · intro a b; rw [a] at b; cases b
theorem is_set (fl : List Stt) (k : Nat) (f : Fl) (v j : Int) (hk : k < fl.length) (hj : 0 ≤ j) : isOf (fl.set k ⟨f, v⟩) j = if j = k then v else isOf fl j := by
  unfold isOf
  by_cases e : j = k
  · rw [if_pos e, show j.toNat = k by omega, List.getElem?_set_self hk]
  · rw [if_neg e, List.getElem?_set_ne (by omega)]
theorem due_set (fl : List Stt) (k : Nat) (f : Fl) (v w j : Int) (hk : fl[k]? = some ⟨f, w⟩) : dueOf (fl.set k ⟨f, v⟩) j = dueOf fl j := by
  have hl : k < fl.length := (List.getElem?_eq_some_iff.1 hk).1
  unfold dueOf
  by_cases e : j.toNat = k
  · rw [e, List.getElem?_set_self hl, hk]
  · rw [List.getElem?_set_ne (by omega)]
theorem lv_set : ∀ (fl : List Stt) (k : Nat) (f : Fl) (v w : Int), fl[k]? = some ⟨f, w⟩ → v < 2 → w < 2 → lv (fl.set k ⟨f, v⟩) = lv fl
  | [], k, f, v, w, h, _, _ => by simp at h
  | s :: fl, 0, f, v, w, h, hv, hw => by
    simp only [List.getElem?_cons_zero, Option.some.injEq] at h
    subst h
    simp [lv, hv, hw]
  | s :: fl, k + 1, f, v, w, h, hv, hw => by
    have ih := lv_set fl k f v w (by simpa using h) hv hw
    unfold lv at *
    rw [List.set_cons_succ]
    by_cases g : s.is < 2
    · rw [List.filter_cons_of_pos (by simpa using g), List.filter_cons_of_pos (by simpa using g), List.map_cons, List.map_cons, ih]
    · rw [List.filter_cons_of_neg (by simpa using g), List.filter_cons_of_neg (by simpa using g), ih]
/-- A flow is torn down: it lingers. -/
theorem Bas.torn (h : Bas now fl pk) {k : Nat} {f : Fl} (hk : fl[k]? = some ⟨f, 0⟩) : Bas now (fl.set k ⟨f, 1⟩) (pk.map (drp now k)) := by
  have b := h.same (same_drp (now := now) (k : Int))
  have hl : k < fl.length := (List.getElem?_eq_some_iff.1 hk).1
  refine ⟨b.n0, ?_, b.sz, ?_, ?_, b.st, ?_, ?_, b.und⟩
  · intro st hst
    rcases List.mem_or_eq_of_mem_set hst with g | rfl
    · exact b.may st g
    · exact b.may ⟨f, 0⟩ (List.mem_of_getElem? hk)
  · intro p hp h0; rw [List.length_set]; exact b.own p hp h0
  · intro j st hj
    by_cases e : j = k
    · subst e
      rw [List.getElem?_set_self hl] at hj
      obtain rfl := Option.some.inj hj
      exact b.cf j ⟨f, 0⟩ hk
    · rw [List.getElem?_set_ne (by omega)] at hj
      exact b.cf j st hj
  · intro q hq a c e
    rw [is_set _ _ _ _ _ hl a] at e
    split at e
    · rename_i g
      obtain ⟨p, hp, rfl⟩ := List.mem_map.1 hq
      rw [(same_drp (now := now) (k : Int)).flow] at g
      rw [(same_drp (now := now) (k : Int)).ready]
      by_cases hs : p.start < 0
      · by_cases hr : p.ready < 0 ∨ now < p.ready
        · exfalso
          unfold drp at c
          rw [if_pos ⟨g, hs, hr⟩] at c
          cases c
        · omega
      · have := h.st p hp (by omega); omega
    · exact b.lg q hq a c e
  · intro q hq a c e
    rw [is_set _ _ _ _ _ hl a] at e
    split at e
    · omega
    · exact b.aw q hq a c e
theorem Gd.torn (h : Gd now fl pk) {k : Nat} {f : Fl} (hk : fl[k]? = some ⟨f, 0⟩) : Gd now (fl.set k ⟨f, 1⟩) (pk.map (drp now k)) := by
  have b := h.same (same_drp (now := now) (k : Int))
  have hl : k < fl.length := (List.getElem?_eq_some_iff.1 hk).1
  refine ⟨h.toBas.torn hk, by rw [lv_set fl k f 1 0 hk (by decide) (by decide)]; exact h.fit, fun d => ?_, ?_⟩
  · refine j_flows (fun p hp h0 => due_set fl k f 1 0 p.flow hk) (fun p hp h0 g => ?_) (b.j d)
    rw [is_set _ _ _ _ _ hl h0]; split <;> omega
  · intro p hp a c
    rw [due_set fl k f 1 0 p.flow hk]; exact b.ok p hp a c
end moves
end Go.Proofs.YtcnmajndackohaaGreatDoor
/-
  Plain: the line as the document tells it, step by step; what holds of it always.
-/
namespace Go.Proofs.YtcnmajndackohaaGreatDoor

/-- A line: its tick, all flows that ever were, all packets that ever were, which of them began, in their order. -/
structure Ln where
  now : Int
  fl : List Stt
  pk : List Pk
  began : List Nat
def Ln.new (l : List Fl) : Ln := ⟨0, l.map fun f => ⟨f, 0⟩, [], []⟩

/-- How many packets of a flow have not begun. -/
def Ln.waiting (x : Ln) (k : Int) : Nat := x.pk.countP fun p => decide (p.flow = k) && decide (p.start < 0) && !p.dropped
/-- How many packets of a flow there were. -/
def Ln.seqOf (x : Ln) (k : Int) : Nat := x.pk.countP fun p => decide (p.flow = k)
def conf (f : Fl) (k size : Int) (l : List Sk) (r : Int) : Bool := decide (size ≤ f.am 0) && confL f k r l size
/-- The least tick from which on a packet can be ready. -/
def latest (k now : Int) (pk : List Pk) : Int := pk.foldl (fun m p => if p.flow = k ∧ m < p.ready then p.ready else m) now
/-- The least of n ticks from r on at which it may; -1: there is none. -/
def seekR (c : Int → Bool) : Nat → Int → Int
  | 0, _ => -1
  | n + 1, r => if c r = true then r else seekR c n (r + 1)
def Ln.readyAt (x : Ln) (f : Fl) (k size : Int) : Int := seekR (conf f k size (x.pk.map Pk.sk).reverse) 401 (latest k x.now x.pk)
def Ln.at? (x : Ln) (k : Int) : Option Stt := if 0 ≤ k then x.fl[k.toNat]? else none
def Ln.push (x : Ln) (k size r : Int) : Ln := { x with pk := x.pk ++ [⟨k, x.seqOf k, size, r, -1, false, false⟩] }
def Ln.send (x : Ln) (k size : Int) : Int × Ln :=
  match x.at? k with
  | none => (4, x)
  | some st =>
    if st.is ≠ 0 then (4, x)
    else if size < 1 ∨ st.f.s < size then (5, x)
    else if 40 ≤ x.waiting k then (6, x)
    else (0, x.push k size (x.readyAt st.f k size))
def Ln.other (x : Ln) (size : Int) : Int × Ln :=
  if size < 1 ∨ 8 < size then (5, x)
  else if 40 ≤ x.waiting (-1) then (6, x)
  else (0, x.push (-1) size x.now)

/-- The packet that began last. -/
def Ln.last (x : Ln) : Option Pk := x.began.getLast?.bind fun i => x.pk[i]?
def Ln.busy (x : Ln) : Bool := match x.last with
  | none => false
  | some p => decide (x.now < p.start + p.size)
/-- May it begin, being of a flow or of none? -/
def elB (now : Int) (flows : Bool) (p : Pk) : Bool := decide (p.start < 0) && !p.dropped && decide (0 ≤ p.ready) && decide (p.ready ≤ now) && (decide (0 ≤ p.flow) == flows)
def key (fl : List Stt) (flows : Bool) (p : Pk) : Int := if flows then p.ready + dueOf fl p.flow else 0
/-- The one of them that goes: its place, what is least, its flow. -/
structure Bst where
  i : Nat
  due : Int
  flow : Int
def better (fl : List Stt) (flows : Bool) (p : Pk) : Option Bst → Bool
  | none => true
  | some b => decide (key fl flows p < b.due) || (decide (key fl flows p = b.due) && decide (p.flow < b.flow))
def pickF (now : Int) (fl : List Stt) (flows : Bool) : List Pk → Nat → Option Bst → Option Bst
  | [], _, b => b
  | p :: l, i, b => pickF now fl flows l (i + 1) (if elB now flows p = true ∧ better fl flows p b = true then some ⟨i, key fl flows p, p.flow⟩ else b)
def Ln.first (x : Ln) (flows : Bool) : Option Bst := pickF x.now x.fl flows x.pk 0 none
def Ln.ofFlow (x : Ln) : Bool := match x.last with
  | none => false
  | some p => decide (0 ≤ p.flow)
def Ln.away (x : Ln) : Ln := if (x.first true).isSome = true ∨ (x.busy = true ∧ x.ofFlow = true) then x else { x with fl := x.fl.map gone1 }
def Ln.goes (x : Ln) : Option Bst := match x.first true with
  | some b => some b
  | none => x.first false
def Ln.begins (x : Ln) : Ln := if x.busy = true then x else match x.goes with
  | none => x
  | some b => { x with pk := x.pk.modify b.i (beg x.now), began := x.began ++ [b.i] }
def Ln.tick (x : Ln) : Ln := let y := x.away.begins; { y with now := y.now + 1 }
def Ln.ticks (x : Ln) : Nat → Ln
  | 0 => x
  | n + 1 => x.tick.ticks n
def Ln.run (x : Ln) (n : Int) : Int × Ln := if n < 0 ∨ 200 < n then (1, x) else (0, x.ticks n.toNat)

/-- Has it ended, and not been told? -/
def fresh1 (now : Int) (p : Pk) : Bool := !p.told && decide (p.start + p.size ≤ now)
def tell (p : Pk) : Pk := { p with told := true }
/-- What Gone tells, and what is told then. -/
def goneL (now : Int) : List Nat → List Pk → List Pk × List Pk
  | [], pk => ([], pk)
  | i :: l, pk => match pk[i]? with
    | none => goneL now l pk
    | some p => if fresh1 now p = true then let r := goneL now l (pk.modify i tell); (p :: r.1, r.2) else goneL now l pk
def Ln.gone (x : Ln) : List Pk × Ln := let r := goneL x.now x.began x.pk; (r.1, { x with pk := r.2 })
def Ln.live (x : Ln) : List Fl := lv x.fl
def Ln.setup (x : Ln) (f : Fl) : (Int × Int × Int) × Ln :=
  if f.mayB = false then ((0, 0, 1), x)
  else if 6 < (f :: x.live).length then ((0, 0, 2), x)
  else if 0 < viol (f :: x.live) then ((0, viol (f :: x.live), 3), x)
  else ((x.fl.length, 0, 0), { x with fl := x.fl ++ [⟨f, 0⟩] })
def Ln.teardown (x : Ln) (k : Int) : Int × Ln :=
  match x.at? k with
  | none => (4, x)
  | some st => if st.is ≠ 0 then (4, x) else (0, Ln.away { x with fl := x.fl.set k.toNat ⟨st.f, 1⟩, pk := x.pk.map (drp x.now k) })

/-- What holds of every line. -/
structure Lnv (x : Ln) : Prop extends Bas x.now x.fl x.pk where
  bg : ∀ i ∈ x.began, ∃ p, x.pk[i]? = some p ∧ 0 ≤ p.start
  lst : (∀ q ∈ x.pk, done x.now q) ∨ ∃ l1 p l2, x.pk = l1 ++ p :: l2 ∧ x.began.getLast? = some l1.length ∧ 0 ≤ p.start ∧ x.now < p.start + p.size ∧ (∀ q ∈ l1, done x.now q) ∧ ∀ q ∈ l2, done x.now q
theorem get_at {l1 l2 : List Pk} {p : Pk} : (l1 ++ p :: l2)[l1.length]? = some p := by rw [List.getElem?_append_right (Nat.le_refl _), Nat.sub_self]; rfl
theorem Lnv.idle {x : Ln} (h : Lnv x) (hb : x.busy = false) : ∀ q ∈ x.pk, done x.now q := by
  rcases h.lst with g | ⟨l1, p, l2, e, hl, h0, h1, _⟩
  · exact g
  · exfalso
    unfold Ln.busy Ln.last at hb
    rw [hl] at hb
    simp only [Option.bind_some] at hb
    rw [e, get_at] at hb
    simp only [decide_eq_false_iff_not] at hb
    exact hb h1
theorem Lnv.bsy {x : Ln} (h : Lnv x) (hb : x.busy = true) : ∃ l1 p l2, x.pk = l1 ++ p :: l2 ∧ x.last = some p ∧ x.began.getLast? = some l1.length ∧ 0 ≤ p.start ∧ x.now < p.start + p.size ∧ (∀ q ∈ l1, done x.now q) ∧ ∀ q ∈ l2, done x.now q := by
  rcases h.lst with g | ⟨l1, p, l2, e, hl, h0, h1, h2, h3⟩
  · exfalso
    unfold Ln.busy Ln.last at hb
    cases hl : x.began.getLast? with
    | none => rw [hl] at hb; simp at hb
    | some i =>
      rw [hl] at hb
      simp only [Option.bind_some] at hb
      obtain ⟨p, hp, h0⟩ := h.bg i (List.mem_of_getLast? hl)
      rw [hp] at hb
      simp only [decide_eq_true_eq] at hb
      have := g p (List.mem_of_getElem? hp)
      unfold done at this
      omega
  · refine ⟨l1, p, l2, e, ?_, hl, h0, h1, h2, h3⟩
    unfold Ln.last
    rw [hl]
    simp only [Option.bind_some]
    rw [e, get_at]

theorem elB_iff (now : Int) (flows : Bool) (p : Pk) : elB now flows p = true ↔ El now p ∧ (0 ≤ p.flow ↔ flows = true) := by
  unfold elB El
  simp only [Bool.and_eq_true, decide_eq_true_eq, Bool.not_eq_true', beq_iff_eq]
  constructor
  · rintro ⟨⟨⟨⟨a, b⟩, c⟩, d⟩, e⟩
    refine ⟨⟨a, b, c, d⟩, ?_⟩
    rw [← e]; simp
  · rintro ⟨⟨a, b, c, d⟩, e⟩
    refine ⟨⟨⟨⟨a, b⟩, c⟩, d⟩, ?_⟩
    rw [Bool.eq_iff_iff]; simpa using e
/-- What is picked: of those in the list, or what was picked ahead. -/
theorem pickF_spec {now : Int} {fl : List Stt} {flows : Bool} : ∀ (l : List Pk) (i : Nat) (b : Option Bst),
    (pickF now fl flows l i b = b ∧ (b = none → ∀ q ∈ l, elB now flows q = false) ∧ ∀ c, b = some c → ∀ q ∈ l, elB now flows q = true → c.due ≤ key fl flows q) ∨
    ∃ l1 p l2, l = l1 ++ p :: l2 ∧ elB now flows p = true ∧ pickF now fl flows l i b = some ⟨i + l1.length, key fl flows p, p.flow⟩ ∧ (∀ q ∈ l, elB now flows q = true → key fl flows p ≤ key fl flows q) ∧ ∀ c, b = some c → key fl flows p ≤ c.due
  | [], _, _ => .inl ⟨rfl, (fun _ q hq => absurd hq (List.not_mem_nil)), (fun _ _ q hq => absurd hq (List.not_mem_nil))⟩
  | p :: l, i, b => by
    by_cases g : elB now flows p = true ∧ better fl flows p b = true
    · have e : pickF now fl flows (p :: l) i b = pickF now fl flows l (i + 1) (some ⟨i, key fl flows p, p.flow⟩) := by
        show pickF now fl flows l (i + 1) _ = _; rw [if_pos g]
      have hb : ∀ c, b = some c → key fl flows p ≤ c.due := by
        rintro c rfl
        have := g.2
        unfold better at this
        simp only [Bool.or_eq_true, Bool.and_eq_true, decide_eq_true_eq] at this
        omega
      rcases pickF_spec l (i + 1) (some ⟨i, key fl flows p, p.flow⟩) with ⟨h1, _, h3⟩ | ⟨l1, q, l2, rfl, h2, h3, h4, h5⟩
      · refine .inr ⟨[], p, l, rfl, g.1, by rw [e, h1]; rfl, ?_, hb⟩
        intro q hq he
        rcases List.mem_cons.1 hq with rfl | hq
        · exact Int.le_refl _
        · exact h3 _ rfl q hq he
      · refine .inr ⟨p :: l1, q, l2, rfl, h2, by rw [e, h3]; simp; omega, ?_, ?_⟩
        · intro z hz he
          rcases List.mem_cons.1 hz with rfl | hz
          · exact h5 _ rfl
          · exact h4 z hz he
        · intro c hc
          exact Int.le_trans (h5 _ rfl) (hb c hc)
    · have e : pickF now fl flows (p :: l) i b = pickF now fl flows l (i + 1) b := by
        show pickF now fl flows l (i + 1) _ = _; rw [if_neg g]
      have hb : ∀ c, b = some c → elB now flows p = true → c.due ≤ key fl flows p := by
        rintro c rfl hp
        have : ¬ better fl flows p (some c) = true := fun k => g ⟨hp, k⟩
        unfold better at this
        simp only [Bool.or_eq_true, Bool.and_eq_true, decide_eq_true_eq] at this
        omega
      have hn : b = none → elB now flows p = false := by
        rintro rfl
        rw [← Bool.not_eq_true]
        exact fun k => g ⟨k, rfl⟩
      rcases pickF_spec l (i + 1) b with ⟨h1, h2, h3⟩ | ⟨l1, q, l2, rfl, h2, h3, h4, h5⟩
      · refine .inl ⟨by rw [e, h1], ?_, ?_⟩
        · intro k q hq
          rcases List.mem_cons.1 hq with rfl | hq
          · exact hn k
          · exact h2 k q hq
        · intro c hc q hq he
          rcases List.mem_cons.1 hq with rfl | hq
          · exact hb c hc he
          · exact h3 c hc q hq he
      · refine .inr ⟨p :: l1, q, l2, rfl, h2, by rw [e, h3]; simp; omega, ?_, h5⟩
        intro z hz he
        rcases List.mem_cons.1 hz with rfl | hz
        · cases b with
          | none => rw [hn rfl] at he; cases he
          | some c => exact Int.le_trans (h5 c rfl) (hb c rfl he)
        · exact h4 z hz he
theorem first_none {x : Ln} {flows : Bool} (h : x.first flows = none) : ∀ q ∈ x.pk, elB x.now flows q = false := by
  unfold Ln.first at h
  rcases pickF_spec (now := x.now) (fl := x.fl) (flows := flows) x.pk 0 none with ⟨_, h2, _⟩ | ⟨l1, p, l2, _, _, h3, _⟩
  · exact h2 rfl
  · rw [h3] at h; cases h
theorem first_some {x : Ln} {flows : Bool} {b : Bst} (h : x.first flows = some b) : ∃ l1 p l2, x.pk = l1 ++ p :: l2 ∧ b.i = l1.length ∧ elB x.now flows p = true ∧ ∀ q ∈ x.pk, elB x.now flows q = true → key x.fl flows p ≤ key x.fl flows q := by
  unfold Ln.first at h
  rcases pickF_spec (now := x.now) (fl := x.fl) (flows := flows) x.pk 0 none with ⟨h1, _, _⟩ | ⟨l1, p, l2, e, h2, h3, h4, _⟩
  · rw [h1] at h; cases h
  · rw [h3] at h
    refine ⟨l1, p, l2, e, ?_, h2, h4⟩
    have := Option.some.inj h
    rw [← this]
    show 0 + l1.length = l1.length
    omega
end Go.Proofs.YtcnmajndackohaaGreatDoor
