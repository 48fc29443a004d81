/-
  Plain: the least violation up to the tick 1300 is the least one up to 7000; which flows may be, as a test.
-/
import Derived.Test.YtcnmajndackohaaGreatDoorFlow
namespace Go.Proofs.YtcnmajndackohaaGreatDoor

def rates : List Fl → Int
  | [] => 0
  | f :: l => f.r + rates l
theorem e_step {f : Fl} (h : f.may) {t : Int} (ht : 460 ≤ t) : f.e (t + 12) = f.e t + f.r := by
  obtain ⟨s0, s1, b0, b1, r0, p0, p1, d0, d1⟩ := h
  unfold Fl.e
  have e : t + 12 - f.d = (t - f.d) + 12 := by omega
  rw [e]
  have hx : 360 ≤ t - f.d := by omega
  generalize t - f.d = x at *
  rw [allow_pos _ _ _ _ _ (by omega), allow_pos _ _ _ _ _ (by omega), Int.mul_add, Int.mul_add]
  have m3 : 0 ≤ f.r * x := Int.mul_nonneg r0 (by omega)
  by_cases hp : f.p = f.r
  · rw [hp]; omega
  · have m5 : 1 * x ≤ (f.p - f.r) * x := mul_le (by omega) (by omega)
    rw [Int.sub_mul] at m5
    omega
theorem tot_step {l : List Fl} (h : ∀ f ∈ l, f.may) {t : Int} (ht : 460 ≤ t) : tot (t + 12) l = tot t l + rates l := by
  induction l with
  | nil => simp [tot, rates]
  | cons f l ih =>
    have a := ih fun g hg => h g (List.mem_cons_of_mem _ hg)
    have b := e_step (h f (List.mem_cons_self ..)) ht
    simp only [tot, rates]; omega
theorem e_low {f : Fl} (h : f.may) {t : Int} (ht : 100 ≤ t) : 2 ≤ f.e t := by
  obtain ⟨s0, s1, b0, b1, r0, p0, p1, d0, d1⟩ := h
  unfold Fl.e
  have m1 : 0 ≤ f.p * (t - f.d) := Int.mul_nonneg (by omega) (by omega)
  have m3 : 0 ≤ f.r * (t - f.d) := Int.mul_nonneg r0 (by omega)
  rw [allow_pos _ _ _ _ _ (by omega)]; omega
theorem e_high {f : Fl} (h : f.may) : 2 + 100 * f.r ≤ f.e 1300 := by
  obtain ⟨s0, s1, b0, b1, r0, p0, p1, d0, d1⟩ := h
  unfold Fl.e
  have m3 : f.r * 1200 ≤ f.r * (1300 - f.d) := Int.mul_le_mul_of_nonneg_left (by omega) r0
  have m4 : f.r * (1300 - f.d) ≤ f.p * (1300 - f.d) := mul_le p0 (by omega)
  rw [allow_pos _ _ _ _ _ (by omega)]; omega
theorem tot_low {l : List Fl} (h : ∀ f ∈ l, f.may) {t : Int} (ht : 100 ≤ t) (hl : l ≠ []) : 0 < tot t l := by
  cases l with
  | nil => exact absurd rfl hl
  | cons f l =>
    have a := e_low (h f (List.mem_cons_self ..)) ht
    have b : 0 ≤ tot t l := by
      clear a hl
      induction l with
      | nil => simp [tot]
      | cons g l ih =>
        have := ih fun k hk => h k (by
          rcases List.mem_cons.1 hk with e | e
          · rw [e]; exact List.mem_cons_self ..
          · exact List.mem_cons_of_mem _ (List.mem_cons_of_mem _ e))
        have c := e_low (h g (List.mem_cons_of_mem _ (List.mem_cons_self ..))) ht
        simp only [tot]; omega
    simp only [tot]; omega
theorem tot_high {l : List Fl} (h : ∀ f ∈ l, f.may) : 100 * rates l ≤ tot 1300 l := by
  induction l with
  | nil => simp [tot, rates]
  | cons f l ih =>
    have a := ih fun g hg => h g (List.mem_cons_of_mem _ hg)
    have b := e_high (h f (List.mem_cons_self ..))
    simp only [tot, rates]; omega
theorem no_more {l : List Fl} (h : ∀ f ∈ l, f.may) (h0 : ∀ u, 1 ≤ u → u ≤ 1300 → vioB l u = false) : ∀ (n : Nat) (u : Int), 1 ≤ u → u ≤ n → vioB l u = false := by
  have hf : ∀ u, vioB l u = false ↔ ¬ (0 < tot u l ∧ u < tot u l + 7) := fun u => by
    rw [← Bool.not_eq_true]; unfold vioB; simp
  by_cases hl : l = []
  · subst hl
    intro n u _ _
    rw [hf]; simp [tot]
  have hR : rates l ≤ 12 := by
    have := h0 1300 (by decide) (by decide)
    rw [hf] at this
    have a := tot_low h (t := 1300) (by decide) hl
    have b := tot_high h
    omega
  intro n
  induction n with
  | zero => intro u h1 h2; omega
  | succ n ih =>
    intro u h1 h2
    by_cases hu : u ≤ 1300
    · exact h0 u h1 hu
    · have a := ih (u - 12) (by omega) (by omega)
      rw [hf] at a ⊢
      have b := tot_low h (t := u - 12) (by omega) hl
      have c := tot_step h (t := u - 12) (by omega)
      rw [show u - 12 + 12 = u by omega] at c
      omega
theorem seek_more (l : List Fl) (n m : Nat) : ∀ t : Int, seek l n t ≠ 0 → seek l (n + m) t = seek l n t := by
  induction n with
  | zero => intro t h; exact absurd rfl h
  | succ n ih =>
    intro t h
    rw [show n + 1 + m = (n + m) + 1 by omega]
    by_cases hv : vioB l t = true
    · rw [seek_step_yes hv, seek_step_yes hv]
    · have hv' : vioB l t = false := by simpa using hv
      rw [seek_step_no hv'] at h ⊢
      rw [seek_step_no hv']
      exact ih _ h
/-- The document's own bound. -/
theorem seek_far {l : List Fl} (h : ∀ f ∈ l, f.may) : seek l 7000 1 = viol l := by
  by_cases h0 : viol l = 0
  · rcases viol_spec l with ⟨_, hn⟩ | ⟨h1, _⟩
    · rcases seek_spec l 7000 1 (by decide) with ⟨h1, _⟩ | ⟨h1, h2, h3, _⟩
      · rw [h1, h0]
      · have := no_more h hn 7000 (seek l 7000 1) h1 (by omega)
        rw [this] at h3; cases h3
    · omega
  · exact seek_more l 1300 5700 1 h0

/-- May a flow be? -/
def Fl.mayB (f : Fl) : Bool := (decide (2 ≤ f.s) && decide (f.s ≤ 8) && decide (f.s ≤ f.b) && decide (f.b ≤ 30)) && (decide (0 ≤ f.r) && decide (f.r ≤ 12) && decide (f.r ≤ f.p) && decide (f.p ≤ 12)) && decide (f.s ≤ f.d) && decide (f.d ≤ 100)
theorem mayB_iff (f : Fl) : f.mayB = true ↔ f.may := by
  unfold Fl.mayB Fl.may
  simp only [Bool.and_eq_true, decide_eq_true_eq]
  constructor
  · rintro ⟨⟨⟨⟨⟨⟨a1, a2⟩, a3⟩, a4⟩, ⟨⟨b1, b2⟩, b3⟩, b4⟩, c1⟩, c2⟩
    exact ⟨a1, a2, a3, a4, b1, b3, b4, c1, c2⟩
  · rintro ⟨s0, s1, b0, b1, r0, p0, p1, d0, d1⟩
    exact ⟨⟨⟨⟨⟨⟨s0, s1⟩, b0⟩, b1⟩, ⟨⟨r0, by omega⟩, p0⟩, p1⟩, d0⟩, d1⟩
/-- May flows be together? -/
def allB (l : List Fl) : Bool := l.all Fl.mayB && decide (l.length ≤ 6)
theorem all_may {l : List Fl} (h : l.all Fl.mayB = true) : ∀ f ∈ l, f.may := fun f hf => (mayB_iff f).1 (List.all_eq_true.1 h f hf)
theorem all_take_succ (l : List Fl) (k : Nat) (h : k < l.length) : (l.take (k + 1)).all Fl.mayB = ((l.take k).all Fl.mayB && (l[k]'h).mayB) := by
  rw [List.take_succ_eq_append_getElem h, List.all_append]; simp
theorem all_false {l : List Fl} {k : Nat} (h : k < l.length) (hf : (l[k]'h).mayB = false) : l.all Fl.mayB = false := by
  rw [List.all_eq_false]
  exact ⟨_, List.getElem_mem h, by simp [hf]⟩
end Go.Proofs.YtcnmajndackohaaGreatDoor
