import Derived.Test.YtcnmajndackohaaGreatDoorMg02
/-
  Plain: the least violation up to the tick 1300 is the least one up to 7000; which flows may be, as a test.
-/
namespace Go.Proofs.YtcnmajndackohaaGreatDoor

def rates : List Fl → Int
  | [] => 0
  | f :: l => f.r + rates l
theorem e_step {f : Fl} (h : f.may) {t : Int} (ht : 460 ≤ t) : f.e (t + 12) = f.e t + f.r := by
  obtain ⟨s0, s1, b0, b1, r0, p0, p1, d0, d1⟩ := h
  unfold Fl.e
  have e : t + 12 - f.d = (t - f.d) + 12 := by omega
  rw [e]
  have hx : 360 ≤ t - f.d := by omega
  generalize t - f.d = x at *
  rw [allow_pos _ _ _ _ _ (by omega), allow_pos _ _ _ _ _ (by omega), Int.mul_add, Int.mul_add]
  have m3 : 0 ≤ f.r * x := Int.mul_nonneg r0 (by omega)
  by_cases hp : f.p = f.r
  · rw [hp]; omega
  · have m5 : 1 * x ≤ (f.p - f.r) * x := mul_le (by omega) (by omega)
    rw [Int.sub_mul] at m5
    omega
theorem tot_step {l : List Fl} (h : ∀ f ∈ l, f.may) {t : Int} (ht : 460 ≤ t) : tot (t + 12) l = tot t l + rates l := by
  induction l with
  | nil => simp [tot, rates]
  | cons f l ih =>
    have a := ih fun g hg => h g (List.mem_cons_of_mem _ hg)
    have b := e_step (h f (List.mem_cons_self ..)) ht
    simp only [tot, rates]; omega
theorem e_low {f : Fl} (h : f.may) {t : Int} (ht : 100 ≤ t) : 2 ≤ f.e t := by
  obtain ⟨s0, s1, b0, b1, r0, p0, p1, d0, d1⟩ := h
  unfold Fl.e
  have m1 : 0 ≤ f.p * (t - f.d) := Int.mul_nonneg (by omega) (by omega)
  have m3 : 0 ≤ f.r * (t - f.d) := Int.mul_nonneg r0 (by omega)
  rw [allow_pos _ _ _ _ _ (by omega)]; omega
theorem e_high {f : Fl} (h : f.may) : 2 + 100 * f.r ≤ f.e 1300 := by
  obtain ⟨s0, s1, b0, b1, r0, p0, p1, d0, d1⟩ := h
  unfold Fl.e
  have m3 : f.r * 1200 ≤ f.r * (1300 - f.d) := Int.mul_le_mul_of_nonneg_left (by omega) r0
  have m4 : f.r * (1300 - f.d) ≤ f.p * (1300 - f.d) := mul_le p0 (by omega)
  rw [allow_pos _ _ _ _ _ (by omega)]; omega
theorem tot_low {l : List Fl} (h : ∀ f ∈ l, f.may) {t : Int} (ht : 100 ≤ t) (hl : l ≠ []) : 0 < tot t l := by
  cases l with
  | nil => exact absurd rfl hl
  | cons f l =>
    have a := e_low (h f (List.mem_cons_self ..)) ht
    have b : 0 ≤ tot t l := by
      clear a hl
      induction l with
      | nil => simp [tot]
      | cons g l ih =>
        have := ih fun k hk => h k (by
          rcases List.mem_cons.1 hk with e | e
          · rw [e]; exact List.mem_cons_self ..
          · exact List.mem_cons_of_mem _ (List.mem_cons_of_mem _ e))
        have c := e_low (h g (List.mem_cons_of_mem _ (List.mem_cons_self ..))) ht
        simp only [tot]; omega
    simp only [tot]; omega
theorem tot_high {l : List Fl} (h : ∀ f ∈ l, f.may) : 100 * rates l ≤ tot 1300 l := by
  induction l with
  | nil => simp [tot, rates]
  | cons f l ih =>
    have a := ih fun g hg => h g (List.mem_cons_of_mem _ hg)
    have b := e_high (h f (List.mem_cons_self ..))
    simp only [tot, rates]; omega
theorem no_more {l : List Fl} (h : ∀ f ∈ l, f.may) (h0 : ∀ u, 1 ≤ u → u ≤ 1300 → vioB l u = false) : ∀ (n : Nat) (u : Int), 1 ≤ u → u ≤ n → vioB l u = false := by
  have hf : ∀ u, vioB l u = false ↔ ¬ (0 < tot u l ∧ u < tot u l + 7) := fun u => by
    rw [← Bool.not_eq_true]; unfold vioB; simp
  by_cases hl : l = []
  · subst hl
    intro n u _ _
    rw [hf]; simp [tot]
  have hR : rates l ≤ 12 := by
    have := h0 1300 (by decide) (by decide)
    rw [hf] at this
    have a := tot_low h (t := 1300) (by decide) hl
    have b := tot_high h
    omega
  intro n
  induction n with
  | zero => intro u h1 h2; omega
  | succ n ih =>
    intro u h1 h2
    by_cases hu : u ≤ 1300
    · exact h0 u h1 hu
    · have a := ih (u - 12) (by omega) (by omega)
      rw [hf] at a ⊢
      have b := tot_low h (t := u - 12) (by omega) hl
      have c := tot_step h (t := u - 12) (by omega)
      rw [show u - 12 + 12 = u by omega] at c
      omega
theorem seek_more (l : List Fl) (n m : Nat) : ∀ t : Int, seek l n t ≠ 0 → seek l (n + m) t = seek l n t := by
  induction n with
  | zero => intro t h; exact absurd rfl h
  | succ n ih =>
    intro t h
    rw [show n + 1 + m = (n + m) + 1 by omega]
    by_cases hv : vioB l t = true
    · rw [seek_step_yes hv, seek_step_yes hv]
    · have hv' : vioB l t = false := by simpa using hv
      rw [seek_step_no hv'] at h ⊢
      rw [seek_step_no hv']
      exact ih _ h
/-- The document's own bound. -/
theorem seek_far {l : List Fl} (h : ∀ f ∈ l, f.may) : seek l 7000 1 = viol l := by
  by_cases h0 : viol l = 0
  · rcases viol_spec l with ⟨_, hn⟩ | ⟨h1, _⟩
    · rcases seek_spec l 7000 1 (by decide) with ⟨h1, _⟩ | ⟨h1, h2, h3, _⟩
      · rw [h1, h0]
      · have := no_more h hn 7000 (seek l 7000 1) h1 (by omega)
        rw [this] at h3; cases h3
    · omega
  · exact seek_more l 1300 5700 1 h0

/-- May a flow be? -/
def Fl.mayB (f : Fl) : Bool := (decide (2 ≤ f.s) && decide (f.s ≤ 8) && decide (f.s ≤ f.b) && decide (f.b ≤ 30)) && (decide (0 ≤ f.r) && decide (f.r ≤ 12) && decide (f.r ≤ f.p) && decide (f.p ≤ 12)) && decide (f.s ≤ f.d) && decide (f.d ≤ 100)
theorem mayB_iff (f : Fl) : f.mayB = true ↔ f.may := by
  unfold Fl.mayB Fl.may
  simp only [Bool.and_eq_true, decide_eq_true_eq]
  constructor
  · rintro ⟨⟨⟨⟨⟨⟨a1, a2⟩, a3⟩, a4⟩, ⟨⟨b1, b2⟩, b3⟩, b4⟩, c1⟩, c2⟩
    exact ⟨a1, a2, a3, a4, b1, b3, b4, c1, c2⟩
  · rintro ⟨s0, s1, b0, b1, r0, p0, p1, d0, d1⟩
    exact ⟨⟨⟨⟨⟨⟨s0, s1⟩, b0⟩, b1⟩, ⟨⟨r0, by omega⟩, p0⟩, p1⟩, d0⟩, d1⟩
/-- May flows be together? -/
def allB (l : List Fl) : Bool := l.all Fl.mayB && decide (l.length ≤ 6)
theorem all_may {l : List Fl} (h : l.all Fl.mayB = true) : ∀ f ∈ l, f.may := fun f hf => (mayB_iff f).1 (List.all_eq_true.1 h f hf)
theorem all_take_succ (l : List Fl) (k : Nat) (h : k < l.length) : (l.take (k + 1)).all Fl.mayB = ((l.take k).all Fl.mayB && (l[k]'h).mayB) := by
  rw [List.take_succ_eq_append_getElem h, List.all_append]; simp
theorem all_false {l : List Fl} {k : Nat} (h : k < l.length) (hf : (l[k]'h).mayB = false) : l.all Fl.mayB = false := by
  rw [List.all_eq_false]
  exact ⟨_, List.getElem_mem h, by simp [hf]⟩
end Go.Proofs.YtcnmajndackohaaGreatDoor
/-
  Plain: what of a flow is ready in some time is as much as may come in it.
-/
namespace Go.Proofs.YtcnmajndackohaaGreatDoor

/-- How much of a flow may come in t ticks. -/
def Fl.am (f : Fl) (t : Int) : Int := allow f.s f.p f.b f.r t
theorem am_zero {f : Fl} (h : f.may) : f.am 0 = f.s := allow_zero h
theorem am_nonneg {f : Fl} (h : f.may) (t : Int) : 0 ≤ f.am t := by
  unfold Fl.am
  by_cases g : t < 0
  · rw [allow_neg _ _ _ _ _ g]; omega
  · exact (allow_rate h (x := t) (by omega)).2.2
theorem am_mono {f : Fl} (h : f.may) {t u : Int} (htu : t ≤ u) : f.am t ≤ f.am u := by
  by_cases g : t < 0
  · have := am_nonneg h u
    unfold Fl.am at *
    rw [allow_neg _ _ _ _ t g]; exact this
  · have := (allow_sum h (x := t) (y := u - t) (by omega) (by omega)).1
    unfold Fl.am
    rwa [show t + (u - t) = u by omega] at this

/-- What does not change of a packet: its flow, its size, when it is ready. -/
structure Sk where
  flow : Int
  size : Int
  ready : Int
/-- The sum of what g tells of each. -/
def sumOf {α : Type} (g : α → Int) : List α → Int
  | [] => 0
  | x :: l => g x + sumOf g l
section
variable {α β : Type}
theorem sumOf_append (g : α → Int) (l m : List α) : sumOf g (l ++ m) = sumOf g l + sumOf g m := by
  induction l with
  | nil => simp [sumOf]
  | cons x l ih => simp only [List.cons_append, sumOf, ih]; omega
theorem sumOf_congr {g g' : α → Int} {l : List α} (h : ∀ x ∈ l, g x = g' x) : sumOf g l = sumOf g' l := by
  induction l with
  | nil => rfl
  | cons x l ih => simp only [sumOf]; rw [h x (List.mem_cons_self ..), ih fun y hy => h y (List.mem_cons_of_mem _ hy)]
theorem sumOf_le {g g' : α → Int} {l : List α} (h : ∀ x ∈ l, g x ≤ g' x) : sumOf g l ≤ sumOf g' l := by
  induction l with
  | nil => simp [sumOf]
  | cons x l ih =>
    have a := h x (List.mem_cons_self ..)
    have b := ih fun y hy => h y (List.mem_cons_of_mem _ hy)
    simp only [sumOf]; omega
theorem sumOf_nonneg {g : α → Int} {l : List α} (h : ∀ x ∈ l, 0 ≤ g x) : 0 ≤ sumOf g l := by
  induction l with
  | nil => simp [sumOf]
  | cons x l ih =>
    have a := h x (List.mem_cons_self ..)
    have b := ih fun y hy => h y (List.mem_cons_of_mem _ hy)
    simp only [sumOf]; omega
theorem sumOf_zero {g : α → Int} {l : List α} (h : ∀ x ∈ l, g x = 0) : sumOf g l = 0 := by
  induction l with
  | nil => rfl
  | cons x l ih =>
    have a := h x (List.mem_cons_self ..)
    have b := ih fun y hy => h y (List.mem_cons_of_mem _ hy)
    simp only [sumOf]; omega
theorem sumOf_add (g g' : α → Int) (l : List α) : sumOf (fun x => g x + g' x) l = sumOf g l + sumOf g' l := by
  induction l with
  | nil => rfl
  | cons x l ih => simp only [sumOf, ih]; omega
theorem sumOf_map (g : β → Int) (h : α → β) (l : List α) : sumOf g (l.map h) = sumOf (fun x => g (h x)) l := by
  induction l with
  | nil => rfl
  | cons x l ih => simp only [List.map_cons, sumOf, ih]
theorem sumOf_reverse (g : α → Int) (l : List α) : sumOf g l.reverse = sumOf g l := by
  induction l with
  | nil => rfl
  | cons x l ih => rw [List.reverse_cons, sumOf_append, ih]; simp only [sumOf]; omega
/-- A sum above nothing has a part above nothing. -/
theorem sumOf_pos {g : α → Int} {l : List α} (h : 0 < sumOf g l) : ∃ x ∈ l, 0 < g x := by
  induction l with
  | nil => simp [sumOf] at h
  | cons x l ih =>
    by_cases hx : 0 < g x
    · exact ⟨x, List.mem_cons_self .., hx⟩
    · obtain ⟨y, hy, k⟩ := ih (by simp only [sumOf] at h; omega)
      exact ⟨y, List.mem_cons_of_mem _ hy, k⟩
theorem sumOf_ge_mem {g : α → Int} {l : List α} (h : ∀ x ∈ l, 0 ≤ g x) {x : α} (hx : x ∈ l) : g x ≤ sumOf g l := by
  induction l with
  | nil => cases hx
  | cons y l ih =>
    have b := sumOf_nonneg fun z hz => h z (List.mem_cons_of_mem y hz)
    have a := h y (List.mem_cons_self ..)
    rcases List.mem_cons.1 hx with rfl | hx
    · simp only [sumOf]; omega
    · have := ih (fun z hz => h z (List.mem_cons_of_mem y hz)) hx
      simp only [sumOf]; omega
end

/-- May a packet that brings its flow's sum to so much be ready at r, behind those that are there (the newest first)? -/
def confL (f : Fl) (k r : Int) : List Sk → Int → Bool
  | [], _ => true
  | p :: l, sum => if p.flow = k then (decide (0 ≤ p.ready) && decide (p.ready ≤ r) && decide (sum + p.size ≤ f.am (r - p.ready)) && confL f k r l (sum + p.size)) else confL f k r l sum
/-- Each packet of flow k conformed to those ahead of it (the newest first). -/
def Cfm (f : Fl) (k : Int) : List Sk → Prop
  | [] => True
  | p :: l => (p.flow = k → 0 ≤ p.ready → p.size ≤ f.am 0 ∧ confL f k p.ready l p.size = true) ∧ Cfm f k l
theorem confL_ready {f : Fl} {k r : Int} : ∀ {l : List Sk} {sum : Int}, confL f k r l sum = true → ∀ x ∈ l, x.flow = k → 0 ≤ x.ready ∧ x.ready ≤ r
  | [], _, _, x, hx, _ => by cases hx
  | p :: l, sum, h, x, hx, hk => by
    unfold confL at h
    split at h
    · simp only [Bool.and_eq_true, decide_eq_true_eq] at h
      rcases List.mem_cons.1 hx with rfl | hx
      · exact ⟨h.1.1.1, h.1.1.2⟩
      · exact confL_ready h.2 x hx hk
    · rename_i hne
      rcases List.mem_cons.1 hx with rfl | hx
      · exact absurd hk hne
      · exact confL_ready h x hx hk
theorem confL_sum {f : Fl} (hf : f.may) {k r s : Int} (hs : s ≤ r) : ∀ {l : List Sk} {sum : Int}, (∀ x ∈ l, 0 ≤ x.size) → Cfm f k l → confL f k r l sum = true → sum ≤ f.am (r - s) →
    sum + sumOf (fun x => if x.flow = k ∧ s ≤ x.ready then x.size else 0) l ≤ f.am (r - s)
  | [], _, _, _, _, h => by simpa [sumOf] using h
  | p :: l, sum, hp, hc, h, h0 => by
    have hp' : ∀ x ∈ l, 0 ≤ x.size := fun x hx => hp x (List.mem_cons_of_mem _ hx)
    unfold confL at h
    split at h
    · rename_i hk
      simp only [Bool.and_eq_true, decide_eq_true_eq] at h
      obtain ⟨⟨⟨h1, h2⟩, h3⟩, h4⟩ := h
      by_cases hsr : s ≤ p.ready
      · have h5 := am_mono hf (show r - p.ready ≤ r - s by omega)
        have := confL_sum hf hs hp' hc.2 h4 (by omega)
        simp only [sumOf, hk, hsr, and_self, if_true]
        omega
      · have hz : sumOf (fun x => if x.flow = k ∧ s ≤ x.ready then x.size else 0) l = 0 := by
          refine sumOf_zero fun x hx => ?_
          have hcf := (hc.1 hk h1).2
          by_cases hxk : x.flow = k
          · have := confL_ready hcf x hx hxk
            rw [if_neg (by omega)]
          · rw [if_neg (by simp [hxk])]
        simp only [sumOf, hz]
        rw [if_neg (by omega)]
        omega
    · rename_i hk
      have := confL_sum hf hs hp' hc.2 h h0
      simp only [sumOf]
      rw [if_neg (by simp [hk])]
      omega
/-- What of a flow is ready from the tick s up to the tick e is at most what may come in that time. -/
theorem ready_sum {f : Fl} (hf : f.may) {k s e : Int} (hs : 0 ≤ s) : ∀ {l : List Sk}, (∀ x ∈ l, 0 ≤ x.size) → Cfm f k l →
    sumOf (fun x => if x.flow = k ∧ s ≤ x.ready ∧ x.ready ≤ e then x.size else 0) l ≤ f.am (e - s)
  | [], _, _ => by simpa [sumOf] using am_nonneg hf _
  | p :: l, hp, hc => by
    have hp' : ∀ x ∈ l, 0 ≤ x.size := fun x hx => hp x (List.mem_cons_of_mem _ hx)
    by_cases hx : p.flow = k ∧ s ≤ p.ready ∧ p.ready ≤ e
    · obtain ⟨h1, h2, h3⟩ := hx
      obtain ⟨c1, c2⟩ := hc.1 h1 (by omega)
      have a := confL_sum hf h2 hp' hc.2 c2 (by have := am_mono hf (show (0 : Int) ≤ p.ready - s by omega); omega)
      have b := am_mono hf (show p.ready - s ≤ e - s by omega)
      have c : sumOf (fun x => if x.flow = k ∧ s ≤ x.ready ∧ x.ready ≤ e then x.size else 0) l ≤ sumOf (fun x => if x.flow = k ∧ s ≤ x.ready then x.size else 0) l := by
        refine sumOf_le fun x hx => ?_
        have := hp' x hx
        by_cases g : x.flow = k ∧ s ≤ x.ready ∧ x.ready ≤ e
        · rw [if_pos g, if_pos ⟨g.1, g.2.1⟩]; omega
        · rw [if_neg g]; split <;> omega
      simp only [sumOf]
      rw [if_pos ⟨h1, h2, h3⟩]
      omega
    · have := ready_sum (e := e) hf hs hp' hc.2
      simp only [sumOf]
      rw [if_neg hx]
      omega
end Go.Proofs.YtcnmajndackohaaGreatDoor
/-
  Plain: a line of flows that fit: what waits for a deadline can still be brought by it.
-/
namespace Go.Proofs.YtcnmajndackohaaGreatDoor

/-- A packet (of none: its flow is -1): when it is ready (-1: never), when it began (-1: it has not). -/
structure Pk where
  flow : Int
  seq : Int
  size : Int
  ready : Int
  start : Int
  dropped : Bool
  told : Bool
def Pk.sk (p : Pk) : Sk := ⟨p.flow, p.size, p.ready⟩
/-- A flow: it lives (0), lingers (1), is away (2). -/
structure Stt where
  f : Fl
  is : Int
def dueOf (fl : List Stt) (k : Int) : Int := match fl[k.toNat]? with
  | some s => s.f.d
  | none => 0
def isOf (fl : List Stt) (k : Int) : Int := match fl[k.toNat]? with
  | some s => s.is
  | none => 2
/-- The flows that live or linger. -/
def lv (fl : List Stt) : List Fl := (fl.filter fun s => decide (s.is < 2)).map Stt.f
def Fit (l : List Fl) : Prop := ∀ u, 1 ≤ u → vioB l u = false
theorem vio_iff (l : List Fl) (u : Int) : vioB l u = false ↔ ¬ (0 < tot u l ∧ u < tot u l + 7) := by
  rw [← Bool.not_eq_true]; unfold vioB; simp
theorem fit_of_viol {l : List Fl} (h : ∀ f ∈ l, f.may) (hv : viol l = 0) : Fit l := by
  rcases viol_spec l with ⟨_, h0⟩ | ⟨h1, _⟩
  · intro u hu
    exact no_more h h0 u.toNat u hu (by omega)
  · omega
theorem fit_mono {l m : List Fl} (h : Fit l) (hm : ∀ u, tot u m ≤ tot u l) : Fit m := by
  intro u hu
  have a := h u hu
  rw [vio_iff] at a ⊢
  have := hm u
  omega

/-- Is it a packet of a flow that is ready by now, with a deadline up to d? -/
def cnt (now : Int) (fl : List Stt) (d : Int) (p : Pk) : Bool :=
  decide (0 ≤ p.flow) && !p.dropped && decide (0 ≤ p.ready) && decide (p.ready ≤ now) && decide (p.ready + dueOf fl p.flow ≤ d)
theorem cnt_iff (now : Int) (fl : List Stt) (d : Int) (p : Pk) : cnt now fl d p = true ↔ 0 ≤ p.flow ∧ p.dropped = false ∧ 0 ≤ p.ready ∧ p.ready ≤ now ∧ p.ready + dueOf fl p.flow ≤ d := by
  unfold cnt
  simp only [Bool.and_eq_true, decide_eq_true_eq, Bool.not_eq_true', and_assoc]
/-- What is left of one that has begun. -/
def run (now : Int) (p : Pk) : Int := if p.start < 0 then 0 else if now < p.start + p.size then p.start + p.size - now else 0
/-- What is left of one. -/
def rem (now : Int) (p : Pk) : Int := if p.start < 0 then p.size else if now < p.start + p.size then p.start + p.size - now else 0
def wk (now : Int) (fl : List Stt) (d : Int) (p : Pk) : Int := if cnt now fl d p = true then rem now p else 0
def wb (now : Int) (fl : List Stt) (d : Int) (p : Pk) : Int := if cnt now fl d p = true then rem now p else run now p
def dm (now : Int) (fl : List Stt) (d s : Int) (p : Pk) : Int := if cnt now fl d p = true ∧ s ≤ p.ready then p.size else 0

/-- Has it not begun, or ended? -/
def done (now : Int) (p : Pk) : Prop := p.start < 0 ∨ p.start + p.size ≤ now
/-- At most one packet is under way. -/
def Und (now : Int) (pk : List Pk) : Prop := (∀ q ∈ pk, done now q) ∨ ∃ l1 p l2, pk = l1 ++ p :: l2 ∧ 0 ≤ p.start ∧ now < p.start + p.size ∧ (∀ q ∈ l1, done now q) ∧ ∀ q ∈ l2, done now q

/-- What holds of every line. -/
structure Bas (now : Int) (fl : List Stt) (pk : List Pk) : Prop where
  n0 : 0 ≤ now
  may : ∀ st ∈ fl, st.f.may
  sz : ∀ p ∈ pk, 1 ≤ p.size ∧ p.size ≤ 8
  own : ∀ p ∈ pk, 0 ≤ p.flow → p.flow.toNat < fl.length
  cf : ∀ (k : Nat) st, fl[k]? = some st → Cfm st.f k (pk.map Pk.sk).reverse
  st : ∀ p ∈ pk, 0 ≤ p.start → 0 ≤ p.ready ∧ p.ready ≤ p.start ∧ p.start < now
  lg : ∀ p ∈ pk, 0 ≤ p.flow → p.dropped = false → isOf fl p.flow = 1 → 0 ≤ p.ready ∧ p.ready ≤ now
  aw : ∀ p ∈ pk, 0 ≤ p.flow → p.dropped = false → 2 ≤ isOf fl p.flow → 0 ≤ p.ready ∧ p.ready < now
  und : Und now pk

def Jd (now : Int) (fl : List Stt) (pk : List Pk) (d : Int) : Prop :=
  sumOf (wk now fl d) pk = 0 ∨ ∃ s, 0 ≤ s ∧ s ≤ now ∧ 0 < sumOf (dm now fl d s) pk ∧ sumOf (wb now fl d) pk ≤ 7 + sumOf (dm now fl d s) pk - (now - s) ∧ ∀ p ∈ pk, cnt now fl d p = true → s ≤ p.ready → isOf fl p.flow < 2
/-- What holds of a line whose flows fit. -/
structure Gd (now : Int) (fl : List Stt) (pk : List Pk) : Prop extends Bas now fl pk where
  fit : Fit (lv fl)
  j : ∀ d, Jd now fl pk d
  ok : ∀ p ∈ pk, 0 ≤ p.flow → 0 ≤ p.start → p.start + p.size ≤ p.ready + dueOf fl p.flow

theorem run_le_rem {now : Int} {p : Pk} (h : 1 ≤ p.size) : run now p ≤ rem now p ∧ 0 ≤ run now p := by
  unfold run rem
  split
  · omega
  · split <;> omega
theorem run_done {now : Int} {p : Pk} (h : done now p) : run now p = 0 := by
  unfold run done at *; split
  · rfl
  · rw [if_neg (by omega)]
theorem wb_nonneg {now : Int} {fl : List Stt} {d : Int} {p : Pk} (h : 1 ≤ p.size) : 0 ≤ wb now fl d p := by
  have := run_le_rem (now := now) h; unfold wb; split <;> omega
theorem wk_nonneg {now : Int} {fl : List Stt} {d : Int} {p : Pk} (h : 1 ≤ p.size) : 0 ≤ wk now fl d p := by
  have := run_le_rem (now := now) h; unfold wk; split <;> omega
theorem dm_nonneg {now : Int} {fl : List Stt} {d s : Int} {p : Pk} (h : 1 ≤ p.size) : 0 ≤ dm now fl d s p := by
  unfold dm; split <;> omega
/-- What is under way has at most seven left. -/
theorem run_seven {now : Int} {fl : List Stt} {pk : List Pk} (h : Bas now fl pk) : sumOf (run now) pk ≤ 7 := by
  rcases h.und with hd | ⟨l1, p, l2, e, h0, h1, d1, d2⟩
  · rw [sumOf_zero fun q hq => run_done (hd q hq)]; decide
  · have hp : p ∈ pk := by rw [e]; simp
    have hs := h.sz p hp
    have ht := h.st p hp h0
    rw [e, sumOf_append]
    simp only [sumOf]
    rw [sumOf_zero fun q hq => run_done (d1 q hq), sumOf_zero fun q hq => run_done (d2 q hq)]
    unfold run
    rw [if_neg (by omega), if_pos h1]
    omega
theorem wb_le {now : Int} {fl : List Stt} {d : Int} {p : Pk} (h : 1 ≤ p.size) : wb now fl d p ≤ wk now fl d p + run now p := by
  have := run_le_rem (now := now) h; unfold wb wk; split <;> omega

/-- What is ready from s on with deadlines up to d, of flows none of which is away, is at most what may come of those that live or linger. -/
theorem part_sum {g : Pk → Int} {pk : List Pk} {t : Int} : ∀ (L : List Stt) (i : Nat), (∀ (j : Nat) st, L[j]? = some st → sumOf (fun p => if p.flow = ((i + j : Nat) : Int) then g p else 0) pk ≤ if st.is < 2 then st.f.e t else 0) →
    sumOf (fun p => if (i : Int) ≤ p.flow ∧ p.flow < ((i + L.length : Nat) : Int) then g p else 0) pk ≤ tot t (lv L)
  | [], i, _ => by
    rw [sumOf_zero fun p _ => if_neg (by simp)]
    simp [lv, tot]
  | st :: L, i, h => by
    have h0 := h 0 st rfl
    have ih := part_sum L (i + 1) fun j st hj => by
      have := h (j + 1) st (by simpa using hj)
      rwa [show i + (j + 1) = i + 1 + j by omega] at this
    have e : sumOf (fun p => if (i : Int) ≤ p.flow ∧ p.flow < ((i + (st :: L).length : Nat) : Int) then g p else 0) pk = sumOf (fun p => if p.flow = ((i + 0 : Nat) : Int) then g p else 0) pk + sumOf (fun p => if ((i + 1 : Nat) : Int) ≤ p.flow ∧ p.flow < ((i + 1 + L.length : Nat) : Int) then g p else 0) pk := by
      rw [← sumOf_add]
      refine sumOf_congr fun p _ => ?_
      simp only [List.length_cons]
      by_cases a : p.flow = ((i + 0 : Nat) : Int)
      · rw [if_pos (by omega), if_pos a, if_neg (by omega)]; omega
      · rw [if_neg a]
        by_cases b : ((i + 1 : Nat) : Int) ≤ p.flow ∧ p.flow < ((i + 1 + L.length : Nat) : Int)
        · rw [if_pos (by omega), if_pos b]; omega
        · rw [if_neg (by omega), if_neg b]; omega
    rw [e]
    have f : tot t (lv (st :: L)) = (if st.is < 2 then st.f.e t else 0) + tot t (lv L) := by
      unfold lv
      by_cases c : st.is < 2
      · rw [List.filter_cons_of_pos (by simpa using c), if_pos c]; simp [tot]
      · rw [List.filter_cons_of_neg (by simpa using c), if_neg c]; simp
    rw [f]
    omega
theorem dem_le {now : Int} {fl : List Stt} {pk : List Pk} (h : Bas now fl pk) {d s : Int} (hs : 0 ≤ s) (hna : ∀ p ∈ pk, cnt now fl d p = true → s ≤ p.ready → isOf fl p.flow < 2) :
    sumOf (dm now fl d s) pk ≤ tot (d - s) (lv fl) := by
  have key := part_sum (g := dm now fl d s) (pk := pk) (t := d - s) fl 0 fun j st hj => by
    have hst : st ∈ fl := List.mem_of_getElem? hj
    have hm := h.may st hst
    by_cases hi : st.is < 2
    · rw [if_pos hi]
      have a := ready_sum (k := j) (s := s) (e := d - st.f.d) hm hs (l := (pk.map Pk.sk).reverse) (fun x hx => by
        rw [List.mem_reverse, List.mem_map] at hx
        obtain ⟨p, hp, rfl⟩ := hx
        have := h.sz p hp
        show 0 ≤ p.size
        omega) (h.cf j st hj)
      rw [sumOf_reverse, sumOf_map] at a
      have a' : sumOf (fun p : Pk => if p.flow = (j : Int) ∧ s ≤ p.ready ∧ p.ready ≤ d - st.f.d then p.size else 0) pk ≤ st.f.am (d - st.f.d - s) := a
      have b : st.f.e (d - s) = st.f.am (d - st.f.d - s) := by
        unfold Fl.e Fl.am; rw [show d - s - st.f.d = d - st.f.d - s by omega]
      rw [b]
      refine Int.le_trans (sumOf_le fun p hp => ?_) a'
      have hz := h.sz p hp
      simp only [Nat.zero_add]
      by_cases c : p.flow = (j : Int)
      · rw [if_pos c]
        unfold dm
        split
        · rename_i g
          have g1 := (cnt_iff _ _ _ _).1 g.1
          have du : dueOf fl p.flow = st.f.d := by unfold dueOf; rw [c, Int.toNat_natCast, hj]
          rw [if_pos ⟨c, g.2, by omega⟩]; omega
        · split <;> omega
      · rw [if_neg c]; split <;> omega
    · rw [if_neg hi]
      refine Int.le_of_eq (sumOf_zero fun p hp => ?_)
      simp only [Nat.zero_add]
      by_cases c : p.flow = (j : Int)
      · rw [if_pos c]
        unfold dm
        rw [if_neg]
        rintro ⟨g1, g2⟩
        have := hna p hp g1 g2
        unfold isOf at this
        rw [c, Int.toNat_natCast, hj] at this
        exact hi this
      · rw [if_neg c]
  refine Int.le_trans (Int.le_of_eq (sumOf_congr fun p hp => ?_)) key
  by_cases c : 0 ≤ p.flow
  · have := h.own p hp c
    rw [if_pos (by simp only [Nat.zero_add]; omega)]
  · rw [if_neg (by omega)]
    unfold dm
    rw [if_neg]
    rintro ⟨g, _⟩
    exact c ((cnt_iff _ _ _ _).1 g).1
/-- What waits for the deadline d can be brought by it. -/
theorem in_time {now : Int} {fl : List Stt} {pk : List Pk} (h : Gd now fl pk) {d : Int} (hw : 0 < sumOf (wk now fl d) pk) : sumOf (wb now fl d) pk ≤ d - now := by
  rcases h.j d with h0 | ⟨s, s0, s1, hd, hle, hna⟩
  · omega
  · have a := dem_le h.toBas s0 hna
    obtain ⟨p, hp, hpos⟩ := sumOf_pos hd
    have hc : cnt now fl d p = true ∧ s ≤ p.ready := by
      unfold dm at hpos
      split at hpos
      · assumption
      · omega
    have c := (cnt_iff _ _ _ _).1 hc.1
    have hl := h.own p hp c.1
    have hd2 : 0 ≤ dueOf fl p.flow ∧ 2 ≤ dueOf fl p.flow := by
      unfold dueOf
      rw [List.getElem?_eq_getElem hl]
      have m := h.may _ (List.getElem_mem hl)
      have := m.s0; have := m.d0
      constructor
      · show 0 ≤ (fl[p.flow.toNat]).f.d; omega
      · show 2 ≤ (fl[p.flow.toNat]).f.d; omega
    have v := h.fit (d - s) (by omega)
    rw [vio_iff] at v
    omega
end Go.Proofs.YtcnmajndackohaaGreatDoor
