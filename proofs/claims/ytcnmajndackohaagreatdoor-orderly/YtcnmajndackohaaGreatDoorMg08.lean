import Derived.Test.YtcnmajndackohaaGreatDoorMg07
/-
  Plain: what holds of a line holds behind each call.
-/
namespace Go.Proofs.YtcnmajndackohaaGreatDoor

theorem seekR_spec (c : Int → Bool) : ∀ (n : Nat) (r : Int), seekR c n r = -1 ∨ (r ≤ seekR c n r ∧ c (seekR c n r) = true)
  | 0, _ => .inl rfl
  | n + 1, r => by
    unfold seekR
    split
    · rename_i h; exact .inr ⟨Int.le_refl _, h⟩
    · rcases seekR_spec c n (r + 1) with h | ⟨h1, h2⟩
      · exact .inl h
      · exact .inr ⟨by omega, h2⟩
theorem latest_ge (k : Int) : ∀ (pk : List Pk) (now : Int), now ≤ latest k now pk
  | [], now => Int.le_refl _
  | p :: l, now => by
    have := latest_ge k l (if p.flow = k ∧ now < p.ready then p.ready else now)
    have e : latest k now (p :: l) = latest k (if p.flow = k ∧ now < p.ready then p.ready else now) l := rfl
    rw [e]
    split at this <;> rename_i g
    · rw [if_pos g]; omega
    · rw [if_neg g]; exact this
theorem at_some {x : Ln} {k : Int} {st : Stt} (h : x.at? k = some st) : 0 ≤ k ∧ x.fl[k.toNat]? = some st := by
  unfold Ln.at? at h
  split at h
  · rename_i g; exact ⟨g, h⟩
  · cases h
theorem lnv_new {l : List Fl} (h : ∀ f ∈ l, f.may) : Lnv (Ln.new l) := by
  refine ⟨⟨Int.le_refl _, ?_, ?_, ?_, ?_, ?_, ?_, ?_, ?_⟩, ?_, ?_⟩
  · intro st hst
    obtain ⟨f, hf, rfl⟩ := List.mem_map.1 hst
    exact h f hf
  · intro p hp; cases hp
  · intro p hp; cases hp
  · intro k st _; trivial
  · intro p hp; cases hp
  · intro p hp; cases hp
  · intro p hp; cases hp
  · left; intro p hp; cases hp
  · intro i hi; cases hi
  · left; intro p hp; cases hp
theorem lv_new (l : List Fl) : lv (Ln.new l).fl = l := by
  show lv (l.map fun f => ⟨f, 0⟩) = l
  induction l with
  | nil => rfl
  | cons f l ih =>
    unfold lv at *
    rw [List.map_cons, List.filter_cons_of_pos (by simp), List.map_cons, ih]
abbrev Lgd (x : Ln) : Prop := Gd x.now x.fl x.pk
theorem lgd_new {l : List Fl} (h : ∀ f ∈ l, f.may) (hv : viol l = 0) : Lgd (Ln.new l) := by
  refine ⟨(lnv_new h).toBas, ?_, fun d => .inl rfl, ?_⟩
  · rw [lv_new]; exact fit_of_viol h hv
  · intro p hp; cases hp

theorem Lnv.push {x : Ln} (h : Lnv x) {p : Pk} (n : New x.now x.fl x.pk p) : Lnv { x with pk := x.pk ++ [p] } := by
  refine ⟨h.toBas.push n, ?_, ?_⟩
  · intro i hi
    obtain ⟨q, hq, h0⟩ := h.bg i hi
    refine ⟨q, ?_, h0⟩
    show (x.pk ++ [p])[i]? = some q
    rw [List.getElem?_append_left (List.getElem?_eq_some_iff.1 hq).1]; exact hq
  · rcases h.lst with g | ⟨l1, q, l2, e, hl, h0, h1, h2, h3⟩
    · left
      intro q hq
      rcases List.mem_append.1 hq with hq | hq
      · exact g q hq
      · obtain rfl := List.mem_singleton.1 hq; exact .inl n.st
    · right
      refine ⟨l1, q, l2 ++ [p], by show x.pk ++ [p] = _; rw [e]; simp, hl, h0, h1, h2, fun z hz => ?_⟩
      rcases List.mem_append.1 hz with hz | hz
      · exact h3 z hz
      · obtain rfl := List.mem_singleton.1 hz; exact .inl n.st
theorem new_flow {x : Ln} (h : Lnv x) {k size : Int} {st : Stt} (ha : x.at? k = some st) (hi : st.is = 0) (hs : ¬ (size < 1 ∨ st.f.s < size)) :
    New x.now x.fl x.pk ⟨k, x.seqOf k, size, x.readyAt st.f k size, -1, false, false⟩ := by
  obtain ⟨k0, hk⟩ := at_some ha
  have hm := h.may st (List.mem_of_getElem? hk)
  have s1 := hm.s1
  refine ⟨by show 1 ≤ size ∧ size ≤ 8; omega, by show (-1 : Int) < 0; decide, rfl, fun _ => ⟨(List.getElem?_eq_some_iff.1 hk).1, ?_, ?_, ?_⟩⟩
  · show isOf x.fl k = 0
    unfold isOf; rw [hk]; exact hi
  · show x.readyAt st.f k size < 0 ∨ x.now ≤ x.readyAt st.f k size
    rcases seekR_spec (conf st.f k size (x.pk.map Pk.sk).reverse) 401 (latest k x.now x.pk) with g | ⟨g, _⟩
    · left; unfold Ln.readyAt; rw [g]; decide
    · right; exact Int.le_trans (latest_ge k x.pk x.now) g
  · intro st' hst' hr
    have e : st' = st := Option.some.inj (hst'.symm.trans hk)
    subst e
    have hr' : 0 ≤ x.readyAt st'.f k size := hr
    rcases seekR_spec (conf st'.f k size (x.pk.map Pk.sk).reverse) 401 (latest k x.now x.pk) with g | ⟨_, g⟩
    · exfalso; unfold Ln.readyAt at hr'; rw [g] at hr'; exact absurd hr' (by decide)
    · have g' : conf st'.f k size (x.pk.map Pk.sk).reverse (x.readyAt st'.f k size) = true := g
      unfold conf at g'
      simp only [Bool.and_eq_true, decide_eq_true_eq] at g'
      exact g'
theorem new_none {x : Ln} {size : Int} (hs : ¬ (size < 1 ∨ 8 < size)) : New x.now x.fl x.pk ⟨-1, x.seqOf (-1), size, x.now, -1, false, false⟩ :=
  ⟨by show 1 ≤ size ∧ size ≤ 8; omega, by show (-1 : Int) < 0; decide, rfl, fun g => absurd (show (0 : Int) ≤ -1 from g) (by decide)⟩
theorem send_cases {x : Ln} {k size : Int} {P : Ln → Prop} (h : P x) (hp : ∀ st, x.at? k = some st → st.is = 0 → ¬ (size < 1 ∨ st.f.s < size) → P (x.push k size (x.readyAt st.f k size))) : P (x.send k size).2 := by
  unfold Ln.send
  split
  · exact h
  · rename_i st ha
    split
    · exact h
    · rename_i hi
      split
      · exact h
      · rename_i hs
        split
        · exact h
        · exact hp st ha (by omega) hs
theorem other_cases {x : Ln} {size : Int} {P : Ln → Prop} (h : P x) (hp : ¬ (size < 1 ∨ 8 < size) → P (x.push (-1) size x.now)) : P (x.other size).2 := by
  unfold Ln.other
  split
  · exact h
  · rename_i hs
    split
    · exact h
    · exact hp hs
theorem Lnv.send {x : Ln} (h : Lnv x) (k size : Int) : Lnv (x.send k size).2 := send_cases h fun _ ha hi hs => h.push (new_flow h ha hi hs)
theorem Lnv.other {x : Ln} (h : Lnv x) (size : Int) : Lnv (x.other size).2 := other_cases h fun hs => h.push (new_none hs)
theorem lgd_send {x : Ln} (h : Lnv x) (g : Lgd x) (k size : Int) : Lgd (x.send k size).2 := send_cases (P := Lgd) g fun _ ha hi hs => g.push (new_flow h ha hi hs)
theorem lgd_other {x : Ln} (g : Lgd x) (size : Int) : Lgd (x.other size).2 := other_cases (P := Lgd) g fun hs => g.push (new_none hs)

theorem none_el {x : Ln} (h : x.first true = none) : ∀ q ∈ x.pk, 0 ≤ q.flow → ¬ El x.now q := by
  intro q hq h0 he
  have := first_none h q hq
  rw [(elB_iff _ _ _).2 ⟨he, by simp [h0]⟩] at this
  cases this
theorem away_cases {x : Ln} {P : Ln → Prop} (h : P x) (hp : x.first true = none → ¬ (x.busy = true ∧ x.ofFlow = true) → P { x with fl := x.fl.map gone1 }) : P x.away := by
  unfold Ln.away
  split
  · exact h
  · rename_i g
    refine hp ?_ fun k => g (.inr k)
    cases e : x.first true with
    | none => rfl
    | some b => exact absurd (.inl (by rw [e]; rfl)) g
theorem Lnv.away {x : Ln} (h : Lnv x) : Lnv x.away := away_cases h fun hn _ => ⟨h.toBas.away (none_el hn), h.bg, h.lst⟩
theorem lgd_away {x : Ln} (h : Lnv x) (g : Lgd x) : Lgd x.away := by
  refine away_cases (P := Lgd) g fun hn hb => g.away (none_el hn) fun q hq h0 => ?_
  cases e : x.busy with
  | false => exact h.idle e q hq
  | true =>
    obtain ⟨l1, p, l2, ep, hl, _, _, _, h2, h3⟩ := h.bsy e
    rw [ep] at hq
    rcases List.mem_append.1 hq with hq | hq
    · exact h2 q hq
    · rcases List.mem_cons.1 hq with rfl | hq
      · exfalso
        refine hb ⟨e, ?_⟩
        unfold Ln.ofFlow
        rw [hl]
        simpa using h0
      · exact h3 q hq

theorem modify_at {α : Type} (f : α → α) (p : α) (l2 : List α) : ∀ l1 : List α, (l1 ++ p :: l2).modify l1.length f = l1 ++ f p :: l2
  | [] => by simp
  | q :: l1 => by
    have := modify_at f p l2 l1
    simp [this]
/-- A tick later, behind what began. -/
def Ln.adv (x : Ln) : Ln := { x.begins with now := x.begins.now + 1 }
theorem goes_some {x : Ln} {b : Bst} (h : x.goes = some b) : ∃ l1 p l2, x.pk = l1 ++ p :: l2 ∧ b.i = l1.length ∧ El x.now p ∧ ∀ q ∈ x.pk, 0 ≤ q.flow → El x.now q → 0 ≤ p.flow ∧ p.ready + dueOf x.fl p.flow ≤ q.ready + dueOf x.fl q.flow := by
  unfold Ln.goes at h
  split at h
  · rename_i b' hb
    obtain rfl := Option.some.inj h
    obtain ⟨l1, p, l2, e, hi, he, hm⟩ := first_some hb
    have he' := (elB_iff _ _ _).1 he
    refine ⟨l1, p, l2, e, hi, he'.1, fun q hq h0 hq2 => ⟨he'.2.2 rfl, ?_⟩⟩
    have := hm q hq ((elB_iff _ _ _).2 ⟨hq2, by simp [h0]⟩)
    simpa [key] using this
  · rename_i hn
    obtain ⟨l1, p, l2, e, hi, he, _⟩ := first_some h
    exact ⟨l1, p, l2, e, hi, ((elB_iff _ _ _).1 he).1, fun q hq h0 hq2 => absurd hq2 (none_el hn q hq h0)⟩
theorem adv_cases {x : Ln} (h : Lnv x) {P : Ln → Prop} (h1 : ∀ l1 p l2, x.busy = true → x.pk = l1 ++ p :: l2 → x.began.getLast? = some l1.length → 0 ≤ p.start → x.now < p.start + p.size → (∀ q ∈ l1, done x.now q) → (∀ q ∈ l2, done x.now q) → P { x with now := x.now + 1 })
    (h2 : x.goes = none → (∀ q ∈ x.pk, done x.now q) → P { x with now := x.now + 1 })
    (h3 : ∀ l1 p l2, x.goes.isSome = true → (∀ q ∈ x.pk, done x.now q) → x.pk = l1 ++ p :: l2 → El x.now p → (∀ q ∈ x.pk, 0 ≤ q.flow → El x.now q → 0 ≤ p.flow ∧ p.ready + dueOf x.fl p.flow ≤ q.ready + dueOf x.fl q.flow) → P ⟨x.now + 1, x.fl, l1 ++ beg x.now p :: l2, x.began ++ [l1.length]⟩) : P x.adv := by
  cases e : x.busy with
  | true =>
    have : x.adv = { x with now := x.now + 1 } := by unfold Ln.adv Ln.begins; rw [if_pos e]
    rw [this]
    obtain ⟨l1, p, l2, ep, _, hl, h0, hlt, d1, d2⟩ := h.bsy e
    exact h1 l1 p l2 e ep hl h0 hlt d1 d2
  | false =>
    have hall := h.idle e
    have ne : ¬ x.busy = true := by rw [e]; decide
    cases g : x.goes with
    | none =>
      have : x.adv = { x with now := x.now + 1 } := by unfold Ln.adv Ln.begins; rw [if_neg ne, g]
      rw [this]
      exact h2 g hall
    | some b =>
      obtain ⟨l1, p, l2, ep, hi, he, hm⟩ := goes_some g
      have : x.adv = ⟨x.now + 1, x.fl, l1 ++ beg x.now p :: l2, x.began ++ [l1.length]⟩ := by
        unfold Ln.adv Ln.begins; rw [if_neg ne, g]
        simp only [hi]
        rw [ep, modify_at]
      rw [this]
      exact h3 l1 p l2 (by rw [g]; rfl) hall ep he hm
theorem Lnv.adv {x : Ln} (h : Lnv x) : Lnv x.adv := by
  refine adv_cases h ?_ ?_ ?_
  · intro l1 p l2 _ e hl h0 h1 d1 d2
    refine ⟨h.toBas.busy e h0 h1 d1 d2, h.bg, ?_⟩
    by_cases g : x.now + 1 < p.start + p.size
    · exact .inr ⟨l1, p, l2, e, hl, h0, g, fun q hq => done_later (d1 q hq), fun q hq => done_later (d2 q hq)⟩
    · left
      intro q hq
      have hq' : q ∈ x.pk := hq
      rw [e] at hq'
      rcases List.mem_append.1 hq' with hq | hq
      · exact done_later (d1 q hq)
      · rcases List.mem_cons.1 hq with rfl | hq
        · right; show q.start + q.size ≤ x.now + 1; omega
        · exact done_later (d2 q hq)
  · intro _ hall
    exact ⟨h.toBas.idle hall, h.bg, .inl fun q hq => done_later (hall q hq)⟩
  · intro l1 p l2 _ hall e he _
    have hb := h.toBas
    rw [e] at hall hb
    have hb' := hb.begins hall he
    refine ⟨hb', ?_, ?_⟩
    · intro i hi
      rcases List.mem_append.1 hi with hi | hi
      · obtain ⟨q, hq, h0⟩ := h.bg i hi
        rw [e] at hq
        have hne : i ≠ l1.length := by
          rintro rfl
          rw [get_at] at hq
          obtain rfl := Option.some.inj hq
          have := he.1; omega
        refine ⟨q, ?_, h0⟩
        show (l1 ++ beg x.now p :: l2)[i]? = some q
        rcases Nat.lt_or_ge i l1.length with g | g
        · rw [List.getElem?_append_left g] at hq ⊢; exact hq
        · rw [List.getElem?_append_right g] at hq ⊢
          obtain ⟨j, hj⟩ : ∃ j, i - l1.length = j + 1 := ⟨i - l1.length - 1, by omega⟩
          rw [hj] at hq ⊢; exact hq
      · obtain rfl := List.mem_singleton.1 hi
        exact ⟨beg x.now p, get_at, h.n0⟩
    · have d1 : ∀ q ∈ l1, done (x.now + 1) q := fun q hq => done_later (hall q (by simp [hq]))
      have d2 : ∀ q ∈ l2, done (x.now + 1) q := fun q hq => done_later (hall q (by simp [hq]))
      have hz := hb.sz p (by simp)
      by_cases g : p.size = 1
      · left
        intro q hq
        rcases List.mem_append.1 hq with hq | hq
        · exact d1 q hq
        · rcases List.mem_cons.1 hq with rfl | hq
          · right; show x.now + p.size ≤ x.now + 1; omega
          · exact d2 q hq
      · exact .inr ⟨l1, beg x.now p, l2, rfl, by simp, h.n0, by show x.now + 1 < x.now + p.size; omega, d1, d2⟩
theorem lgd_adv {x : Ln} (h : Lnv x) (g : Lgd x) : Lgd x.adv := by
  refine adv_cases h (P := Lgd) ?_ ?_ ?_
  · intro l1 p l2 _ e _ h0 h1 d1 d2; exact g.busy e h0 h1 d1 d2
  · intro hn hall
    refine g.idle hall (none_el ?_)
    unfold Ln.goes at hn
    split at hn
    · cases hn
    · assumption
  · intro l1 p l2 _ hall e he hm
    have g' := g
    unfold Lgd at g'
    rw [e] at hall hm g'
    exact g'.begins hall he hm
theorem tick_adv (x : Ln) : x.tick = x.away.adv := rfl
theorem Lnv.tick {x : Ln} (h : Lnv x) : Lnv x.tick := h.away.adv
theorem lgd_tick {x : Ln} (h : Lnv x) (g : Lgd x) : Lgd x.tick := lgd_adv h.away (lgd_away h g)
theorem Lnv.ticks {x : Ln} (h : Lnv x) (n : Nat) : Lnv (x.ticks n) := by
  induction n generalizing x with
  | zero => exact h
  | succ n ih => exact ih h.tick
theorem lgd_ticks {x : Ln} (h : Lnv x) (g : Lgd x) (n : Nat) : Lgd (x.ticks n) := by
  induction n generalizing x with
  | zero => exact g
  | succ n ih => exact ih h.tick (lgd_tick h g)
theorem Lnv.run {x : Ln} (h : Lnv x) (n : Int) : Lnv (x.run n).2 := by
  unfold Ln.run; split
  · exact h
  · exact h.ticks _
theorem lgd_run {x : Ln} (h : Lnv x) (g : Lgd x) (n : Int) : Lgd (x.run n).2 := by
  unfold Ln.run; split
  · exact g
  · exact lgd_ticks h g _
end Go.Proofs.YtcnmajndackohaaGreatDoor
/-
  Plain: what holds of a line holds behind Gone, Setup and Teardown; what Gone tells is in time where the flows fit.
-/
namespace Go.Proofs.YtcnmajndackohaaGreatDoor

def untold (p : Pk) : Pk := { p with told := false }
theorem untold_modify : ∀ (pk : List Pk) (i : Nat), (pk.modify i tell).map untold = pk.map untold
  | [], i => by cases i <;> rfl
  | p :: l, 0 => by simp [untold, tell]
  | p :: l, i + 1 => by
    have := untold_modify l i
    simp [this]
theorem gone_untold (now : Int) : ∀ (l : List Nat) (pk : List Pk), (goneL now l pk).2.map untold = pk.map untold
  | [], _ => rfl
  | i :: l, pk => by
    unfold goneL
    split
    · exact gone_untold now l pk
    · split
      · show (goneL now l (pk.modify i tell)).2.map untold = _
        rw [gone_untold now l (pk.modify i tell), untold_modify]
      · exact gone_untold now l pk
theorem same_untold (now : Int) : Same now untold :=
  ⟨fun _ => rfl, fun _ => rfl, fun _ => id, fun p a b => by
    have : p.dropped = true := b
    rw [a] at this; cases this⟩
theorem bas_untold {now : Int} {fl : List Stt} {pk : List Pk} (h : Bas now fl (pk.map untold)) : Bas now fl pk := by
  have mem : ∀ p ∈ pk, untold p ∈ pk.map untold := fun p hp => List.mem_map_of_mem hp
  refine ⟨h.n0, h.may, fun p hp => h.sz (untold p) (mem p hp), fun p hp => h.own (untold p) (mem p hp), ?_, fun p hp => h.st (untold p) (mem p hp), fun p hp => h.lg (untold p) (mem p hp), fun p hp => h.aw (untold p) (mem p hp), ?_⟩
  · intro k st hk
    have := h.cf k st hk
    rw [List.map_map, show Pk.sk ∘ untold = Pk.sk from rfl] at this
    exact this
  · rcases h.und with hd | ⟨l1, p, l2, e, h0, h1, d1, d2⟩
    · left; exact fun q hq => hd (untold q) (mem q hq)
    · right
      obtain ⟨m1, r, rfl, rfl, e2⟩ := List.map_eq_append_iff.1 e
      obtain ⟨q, m2, rfl, rfl, rfl⟩ := List.map_eq_cons_iff.1 e2
      exact ⟨m1, q, m2, rfl, h0, h1, fun z hz => d1 (untold z) (List.mem_map_of_mem hz), fun z hz => d2 (untold z) (List.mem_map_of_mem hz)⟩
theorem gd_untold {now : Int} {fl : List Stt} {pk : List Pk} (h : Gd now fl (pk.map untold)) : Gd now fl pk := by
  have mem : ∀ p ∈ pk, untold p ∈ pk.map untold := fun p hp => List.mem_map_of_mem hp
  refine ⟨bas_untold h.toBas, h.fit, fun d => ?_, fun p hp => h.ok (untold p) (mem p hp)⟩
  have := h.j d
  unfold Jd at this
  simp only [sumOf_map] at this
  rcases this with k | ⟨s, s0, s1, h1, h2, h3⟩
  · exact .inl k
  · exact .inr ⟨s, s0, s1, h1, h2, fun p hp => h3 (untold p) (mem p hp)⟩
theorem lnv_untold {x y : Ln} (h : Lnv x) (hn : y.now = x.now) (hf : y.fl = x.fl) (hb : y.began = x.began) (hp : y.pk.map untold = x.pk.map untold) : Lnv y := by
  obtain ⟨ny, fy, py, by'⟩ := y
  obtain ⟨nx, fx, px, bx⟩ := x
  subst hn hf hb
  have hp' : py.map untold = px.map untold := hp
  have b := h.toBas.same (same_untold _)
  have b1 : Bas ny fy (px.map untold) := b
  rw [← hp'] at b1
  refine ⟨bas_untold b1, ?_, ?_⟩
  · intro i hi
    obtain ⟨p, e, h0⟩ := h.bg i hi
    have e' : (px.map untold)[i]? = some (untold p) := by rw [List.getElem?_map]; show Option.map untold (px[i]?) = _; rw [show px[i]? = some p from e]; rfl
    rw [← hp', List.getElem?_map] at e'
    obtain ⟨q, hq, eq⟩ := Option.map_eq_some_iff.1 e'
    refine ⟨q, hq, ?_⟩
    have : (untold q).start = (untold p).start := by rw [eq]
    show 0 ≤ q.start
    rw [show q.start = p.start from this]; exact h0
  · rcases h.lst with hd | ⟨l1, p, l2, e, hl, h0, h1, d1, d2⟩
    · left
      intro q hq
      have : untold q ∈ px.map untold := by rw [← hp']; exact List.mem_map_of_mem hq
      obtain ⟨p, hp2, e⟩ := List.mem_map.1 this
      have hd' := hd p hp2
      have hd2 : done ny (untold p) := hd'
      rw [e] at hd2
      exact hd2
    · right
      have e1 : px = l1 ++ p :: l2 := e
      rw [e1, List.map_append, List.map_cons] at hp'
      obtain ⟨m1, r, rfl, q1, e2⟩ := List.map_eq_append_iff.1 hp'
      obtain ⟨q, m2, rfl, q2, q3⟩ := List.map_eq_cons_iff.1 e2
      have hlen : m1.length = l1.length := by have := congrArg List.length q1; simpa using this
      have hst : q.start = p.start := by have := congrArg Pk.start q2; exact this
      have hsz : q.size = p.size := by have := congrArg Pk.size q2; exact this
      refine ⟨m1, q, m2, rfl, ?_, ?_, ?_, ?_, ?_⟩
      · rw [hlen]; exact hl
      · rw [hst]; exact h0
      · rw [hst, hsz]; exact h1
      · intro z hz
        have : untold z ∈ l1.map untold := by rw [← q1]; exact List.mem_map_of_mem hz
        obtain ⟨p', hp2, e⟩ := List.mem_map.1 this
        have hd2 : done ny (untold p') := d1 p' hp2
        rw [e] at hd2
        exact hd2
      · intro z hz
        have : untold z ∈ l2.map untold := by rw [← q3]; exact List.mem_map_of_mem hz
        obtain ⟨p', hp2, e⟩ := List.mem_map.1 this
        have hd2 : done ny (untold p') := d2 p' hp2
        rw [e] at hd2
        exact hd2
theorem Lnv.gone {x : Ln} (h : Lnv x) : Lnv x.gone.2 := lnv_untold h rfl rfl rfl (gone_untold _ _ _)
theorem lgd_gone {x : Ln} (g : Lgd x) : Lgd x.gone.2 := by
  have b : Gd x.now x.fl (x.pk.map untold) := g.same (same_untold _)
  rw [← gone_untold x.now x.began x.pk] at b
  exact gd_untold b
/-- What Gone tells are packets of the line that began, and have ended. -/
theorem gone_mem (now : Int) : ∀ (l : List Nat) (pk : List Pk), (∀ i ∈ l, ∃ p, pk[i]? = some p ∧ 0 ≤ p.start) → ∀ p ∈ (goneL now l pk).1, ∃ q ∈ pk, untold q = untold p ∧ 0 ≤ p.start ∧ p.start + p.size ≤ now
  | [], _, _, p, hp => by cases hp
  | i :: l, pk, hb, p, hp => by
    have hb' : ∀ j ∈ l, ∃ p, pk[j]? = some p ∧ 0 ≤ p.start := fun j hj => hb j (List.mem_cons_of_mem _ hj)
    unfold goneL at hp
    split at hp
    · exact gone_mem now l pk hb' p hp
    · rename_i q hq
      obtain ⟨q', hq', h0⟩ := hb i (List.mem_cons_self ..)
      obtain rfl := Option.some.inj (hq.symm.trans hq')
      split at hp
      · rename_i hf
        rcases List.mem_cons.1 hp with rfl | hp
        · unfold fresh1 at hf
          simp only [Bool.and_eq_true, decide_eq_true_eq] at hf
          exact ⟨p, List.mem_of_getElem? hq, rfl, h0, hf.2⟩
        · have hb2 : ∀ j ∈ l, ∃ p, (pk.modify i tell)[j]? = some p ∧ 0 ≤ p.start := fun j hj => by
            obtain ⟨z, hz, z0⟩ := hb' j hj
            have e : ((pk.modify i tell).map untold)[j]? = some (untold z) := by rw [untold_modify, List.getElem?_map, hz]; rfl
            rw [List.getElem?_map] at e
            obtain ⟨y, hy, ey⟩ := Option.map_eq_some_iff.1 e
            refine ⟨y, hy, ?_⟩
            have : (untold y).start = (untold z).start := by rw [ey]
            rw [show y.start = z.start from this]; exact z0
          obtain ⟨y, hy, ey, k⟩ := gone_mem now l (pk.modify i tell) hb2 p hp
          have : untold y ∈ (pk.modify i tell).map untold := List.mem_map_of_mem hy
          rw [untold_modify] at this
          obtain ⟨z, hz, ez⟩ := List.mem_map.1 this
          exact ⟨z, hz, by rw [ez, ey], k⟩
      · exact gone_mem now l pk hb' p hp
/-- Where the flows fit nothing that Gone tells is late. -/
theorem gone_due {x : Ln} (h : Lnv x) (g : Lgd x) : ∀ p ∈ x.gone.1, 0 ≤ p.flow → p.flow.toNat < x.fl.length ∧ p.start + p.size ≤ p.ready + dueOf x.fl p.flow := by
  intro p hp h0
  obtain ⟨q, hq, e, h1, _⟩ := gone_mem x.now x.began x.pk h.bg p hp
  have e1 : q.flow = p.flow := by have := congrArg Pk.flow e; exact this
  have e2 : q.start = p.start := by have := congrArg Pk.start e; exact this
  have e3 : q.size = p.size := by have := congrArg Pk.size e; exact this
  have e4 : q.ready = p.ready := by have := congrArg Pk.ready e; exact this
  rw [← e1] at h0
  rw [← e2] at h1
  rw [← e1, ← e2, ← e3, ← e4]
  exact ⟨h.own q hq h0, g.ok q hq h0 h1⟩
theorem gone_own {x : Ln} (h : Lnv x) : ∀ p ∈ x.gone.1, 0 ≤ p.flow → p.flow.toNat < x.fl.length := by
  intro p hp h0
  obtain ⟨q, hq, e, _⟩ := gone_mem x.now x.began x.pk h.bg p hp
  have e1 : q.flow = p.flow := by have := congrArg Pk.flow e; exact this
  rw [← e1] at h0 ⊢
  exact h.own q hq h0

theorem lv_may {x : Ln} (h : Lnv x) : ∀ f ∈ lv x.fl, f.may := by
  intro f hf
  unfold lv at hf
  obtain ⟨st, hst, rfl⟩ := List.mem_map.1 hf
  exact h.may st (List.mem_filter.1 hst).1
theorem setup_cases {x : Ln} {f : Fl} {P : Ln → Prop} (h : P x) (hp : f.may → viol (f :: x.live) ≤ 0 → P { x with fl := x.fl ++ [⟨f, 0⟩] }) : P (x.setup f).2 := by
  unfold Ln.setup
  split
  · exact h
  · rename_i hm
    split
    · exact h
    · split
      · exact h
      · rename_i hv
        exact hp ((mayB_iff f).1 (by simpa using hm)) (by omega)
theorem Lnv.setup {x : Ln} (h : Lnv x) (f : Fl) : Lnv (x.setup f).2 := setup_cases h fun hf _ => ⟨h.toBas.comes hf, h.bg, h.lst⟩
theorem lgd_setup {x : Ln} (h : Lnv x) (g : Lgd x) (f : Fl) : Lgd (x.setup f).2 := by
  refine setup_cases (P := Lgd) g fun hf hv => g.comes hf (fit_of_viol ?_ ?_)
  · intro y hy
    rcases List.mem_cons.1 hy with rfl | hy
    · exact hf
    · exact lv_may h y hy
  · have := (viol_range (f :: x.live)).1
    show viol (f :: x.live) = 0
    omega
theorem Lnv.torn {x : Ln} (h : Lnv x) {k : Int} {st : Stt} (ha : x.at? k = some st) (hi : st.is = 0) : Lnv { x with fl := x.fl.set k.toNat ⟨st.f, 1⟩, pk := x.pk.map (drp x.now k) } := by
  obtain ⟨k0, hk⟩ := at_some ha
  have e : st = ⟨st.f, 0⟩ := by rw [← hi]
  rw [e] at hk
  have b := h.toBas.torn hk
  rw [Int.toNat_of_nonneg k0] at b
  have s := same_drp (now := x.now) k
  refine ⟨b, ?_, ?_⟩
  · intro i hi
    obtain ⟨p, hp, h0⟩ := h.bg i hi
    refine ⟨drp x.now k p, ?_, by rw [s.st]; exact h0⟩
    show (x.pk.map (drp x.now k))[i]? = _
    rw [List.getElem?_map, hp]; rfl
  · rcases h.lst with hd | ⟨l1, p, l2, e, hl, h0, h1, d1, d2⟩
    · left
      intro q hq
      obtain ⟨p, hp, rfl⟩ := List.mem_map.1 hq
      exact s.done (hd p hp)
    · right
      refine ⟨l1.map (drp x.now k), drp x.now k p, l2.map (drp x.now k), by show x.pk.map _ = _; rw [e]; simp, by rw [List.length_map]; exact hl, by rw [s.st]; exact h0, by rw [s.st, s.size]; exact h1, fun q hq => ?_, fun q hq => ?_⟩
      · obtain ⟨z, hz, rfl⟩ := List.mem_map.1 hq; exact s.done (d1 z hz)
      · obtain ⟨z, hz, rfl⟩ := List.mem_map.1 hq; exact s.done (d2 z hz)
theorem lgd_torn {x : Ln} (g : Lgd x) {k : Int} {st : Stt} (ha : x.at? k = some st) (hi : st.is = 0) : Lgd { x with fl := x.fl.set k.toNat ⟨st.f, 1⟩, pk := x.pk.map (drp x.now k) } := by
  obtain ⟨k0, hk⟩ := at_some ha
  have e : st = ⟨st.f, 0⟩ := by rw [← hi]
  rw [e] at hk
  have b := Gd.torn g hk
  rw [Int.toNat_of_nonneg k0] at b
  exact b
theorem teardown_cases {x : Ln} {k : Int} {P : Ln → Prop} (h : P x) (hp : ∀ st, x.at? k = some st → st.is = 0 → P (Ln.away { x with fl := x.fl.set k.toNat ⟨st.f, 1⟩, pk := x.pk.map (drp x.now k) })) : P (x.teardown k).2 := by
  unfold Ln.teardown
  split
  · exact h
  · rename_i st ha
    split
    · exact h
    · rename_i hi; exact hp st ha (by omega)
theorem Lnv.teardown {x : Ln} (h : Lnv x) (k : Int) : Lnv (x.teardown k).2 := teardown_cases h fun _ ha hi => (h.torn ha hi).away
theorem lgd_teardown {x : Ln} (h : Lnv x) (g : Lgd x) (k : Int) : Lgd (x.teardown k).2 := teardown_cases (P := Lgd) g fun _ ha hi => lgd_away (h.torn ha hi) (lgd_torn g ha hi)
end Go.Proofs.YtcnmajndackohaaGreatDoor
/-
  Plain: how great a line's numbers are behind some steps.
-/
namespace Go.Proofs.YtcnmajndackohaaGreatDoor

/-- Numbers that are not too great, behind n steps. -/
structure Sml (x : Ln) (n : Nat) : Prop where
  now : x.now ≤ 500 * n
  pk : x.pk.length ≤ n
  rd : ∀ p ∈ x.pk, p.ready ≤ 500 * n
  bg : x.began.length ≤ 500 * n
theorem Sml.mono {x : Ln} {n m : Nat} (h : Sml x n) (hm : n ≤ m) : Sml x m := ⟨by have := h.now; omega, by have := h.pk; omega, fun p hp => by have := h.rd p hp; omega, by have := h.bg; omega⟩
theorem sml_new (l : List Fl) : Sml (Ln.new l) 0 := ⟨by show (0 : Int) ≤ 500 * ((0 : Nat) : Int); omega, Nat.le_refl _, (fun p hp => by cases hp), Nat.le_refl _⟩
theorem latest_bd (k : Int) {m : Int} : ∀ (pk : List Pk) (now : Int), now ≤ m → (∀ p ∈ pk, p.ready ≤ m) → latest k now pk ≤ m
  | [], _, h, _ => h
  | p :: pk, now, h, hr => by
    show latest k (if p.flow = k ∧ now < p.ready then p.ready else now) pk ≤ m
    refine latest_bd k pk _ ?_ fun q hq => hr q (List.mem_cons_of_mem _ hq)
    split
    · exact hr p (List.mem_cons_self ..)
    · exact h
theorem seekR_le (c : Int → Bool) : ∀ (n : Nat) (r : Int), seekR c n r = -1 ∨ seekR c n r < r + n
  | 0, _ => .inl rfl
  | n + 1, r => by
    unfold seekR
    split
    · right; omega
    · rcases seekR_le c n (r + 1) with h | h
      · exact .inl h
      · right; omega
theorem Sml.push {x : Ln} {n : Nat} (h : Sml x n) (k size r : Int) (hr : r ≤ 500 * (n + 1)) : Sml (x.push k size r) (n + 1) := by
  refine ⟨?_, ?_, fun p hp => ?_, ?_⟩
  · show x.now ≤ _
    have := h.now
    omega
  · show (x.pk ++ [_]).length ≤ n + 1
    have := h.pk
    simp; omega
  · rcases List.mem_append.1 (show p ∈ x.pk ++ [_] from hp) with hp | hp
    · have := h.rd p hp
      omega
    · rw [List.mem_singleton.1 hp]
      show r ≤ _
      omega
  · show x.began.length ≤ _
    have := h.bg
    omega
theorem Sml.send {x : Ln} {n : Nat} (h : Sml x n) (k size : Int) : Sml (x.send k size).2 (n + 1) := by
  refine send_cases (P := fun y => Sml y (n + 1)) (h.mono (Nat.le_succ _)) fun st _ _ _ => h.push _ _ _ ?_
  unfold Ln.readyAt
  have hl := latest_bd k x.pk x.now h.now h.rd
  rcases seekR_le (conf st.f k size (x.pk.map Pk.sk).reverse) 401 (latest k x.now x.pk) with e | e <;> omega
theorem Sml.other {x : Ln} {n : Nat} (h : Sml x n) (size : Int) : Sml (x.other size).2 (n + 1) :=
  other_cases (P := fun y => Sml y (n + 1)) (h.mono (Nat.le_succ _)) fun _ => h.push _ _ _ (by have := h.now; omega)
theorem tick_sk (x : Ln) : x.tick.now = x.now + 1 ∧ x.tick.pk.map Pk.sk = x.pk.map Pk.sk ∧ x.tick.began.length ≤ x.began.length + 1 := by
  have ha : x.away.now = x.now ∧ x.away.pk = x.pk ∧ x.away.began = x.began := by unfold Ln.away; split <;> exact ⟨rfl, rfl, rfl⟩
  have hb : ∀ y : Ln, y.begins.now = y.now ∧ y.begins.pk.map Pk.sk = y.pk.map Pk.sk ∧ y.begins.began.length ≤ y.began.length + 1 := by
    intro y
    unfold Ln.begins
    split
    · exact ⟨rfl, rfl, Nat.le_succ _⟩
    · split
      · exact ⟨rfl, rfl, Nat.le_succ _⟩
      · refine ⟨rfl, ?_, by simp⟩
        show (y.pk.modify _ _).map Pk.sk = _
        rename_i b _
        generalize y.pk = l
        generalize b.i = i
        induction l generalizing i with
        | nil => simp
        | cons q l ih =>
          cases i with
          | zero => rfl
          | succ i => simp only [List.modify_succ_cons, List.map_cons, ih]
  show x.away.begins.now + 1 = x.now + 1 ∧ x.away.begins.pk.map Pk.sk = _ ∧ x.away.begins.began.length ≤ _
  rw [(hb x.away).1, (hb x.away).2.1, ha.1, ha.2.1]
  have := (hb x.away).2.2
  rw [ha.2.2] at this
  exact ⟨rfl, rfl, this⟩
theorem ticks_sk : ∀ (n : Nat) (x : Ln), (x.ticks n).now = x.now + n ∧ (x.ticks n).pk.map Pk.sk = x.pk.map Pk.sk ∧ (x.ticks n).began.length ≤ x.began.length + n
  | 0, x => ⟨by show x.now = x.now + ((0 : Nat) : Int); omega, rfl, Nat.le_refl _⟩
  | n + 1, x => by
    have a := ticks_sk n x.tick
    have b := tick_sk x
    refine ⟨?_, ?_, ?_⟩
    · show (x.tick.ticks n).now = _
      rw [a.1, b.1]; omega
    · show (x.tick.ticks n).pk.map Pk.sk = _
      rw [a.2.1, b.2.1]
    · show (x.tick.ticks n).began.length ≤ _
      have := a.2.2
      have := b.2.2
      omega
theorem sml_sk {x y : Ln} {n m : Nat} (h : Sml x n) (hn : y.now ≤ 500 * m) (he : y.pk.map Pk.sk = x.pk.map Pk.sk) (hm : n ≤ m) (hb : y.began.length ≤ 500 * m) : Sml y m := by
  refine ⟨hn, ?_, fun p hp => ?_, hb⟩
  · have := congrArg List.length he
    simp only [List.length_map] at this
    have := h.pk
    omega
  · have : p.sk ∈ x.pk.map Pk.sk := by rw [← he]; exact List.mem_map.2 ⟨p, hp, rfl⟩
    obtain ⟨q, hq, e⟩ := List.mem_map.1 this
    have h1 := h.rd q hq
    have h2 : q.ready = p.ready := congrArg Sk.ready e
    omega
theorem Sml.run {x : Ln} {n : Nat} (h : Sml x n) (t : Int) : Sml (x.run t).2 (n + 1) := by
  unfold Ln.run
  split
  · exact h.mono (Nat.le_succ _)
  · have a := ticks_sk t.toNat x
    refine sml_sk h ?_ a.2.1 (Nat.le_succ _) ?_
    · show (x.ticks t.toNat).now ≤ _
      rw [a.1]
      have := h.now
      omega
    · show (x.ticks t.toNat).began.length ≤ _
      have := a.2.2
      have := h.bg
      omega
theorem untold_sk (l m : List Pk) (h : l.map untold = m.map untold) : l.map Pk.sk = m.map Pk.sk := by
  have e : ∀ l : List Pk, l.map Pk.sk = (l.map untold).map Pk.sk := fun l => by rw [List.map_map]; rfl
  rw [e l, e m, h]
theorem Sml.gone {x : Ln} {n : Nat} (h : Sml x n) : Sml x.gone.2 n := sml_sk h h.now (untold_sk _ _ (gone_untold _ _ _)) (Nat.le_refl _) h.bg
end Go.Proofs.YtcnmajndackohaaGreatDoor
