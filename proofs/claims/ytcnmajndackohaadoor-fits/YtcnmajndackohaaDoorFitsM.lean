/-
  Plain: flows that fit still fit with one fewer, or with more time; turned round they have the same least violation.
-/
import Derived.Test.YtcnmajndackohaaDoorFlow
namespace Go.Proofs.YtcnmajndackohaaDoor

theorem vioB_iff (l : List Fl) (t : Int) : vioB l t = true ↔ 0 < tot t l ∧ t < tot t l + 7 := by unfold vioB; simp
/-- Where less comes there is no violation that was none. -/
theorem viol_zero_of_le {l m : List Fl} (h : ∀ t, 1 ≤ t → t ≤ 1300 → tot t m ≤ tot t l) (hl : viol l = 0) : viol m = 0 := by
  rcases viol_spec l with ⟨_, h0⟩ | ⟨h1, _⟩
  · rcases viol_spec m with ⟨h2, _⟩ | ⟨h1, h2, h3, _⟩
    · exact h2
    · have := h0 _ h1 h2
      rw [vioB_iff] at h3
      have := h _ h1 h2
      have c : vioB l (viol m) = true := by rw [vioB_iff]; omega
      simp_all
  · omega
/-- Where as much comes the least violation is the same. -/
theorem viol_eq_of_eq {l m : List Fl} (h : ∀ t, tot t m = tot t l) : viol m = viol l := by
  have hv : ∀ t, vioB m t = vioB l t := fun t => by unfold vioB; rw [h t]
  have hs : ∀ n t, seek m n t = seek l n t := by
    intro n
    induction n with
    | zero => intro t; rfl
    | succ n ih => intro t; simp only [seek, hv, ih]
  exact hs 1300 1

theorem allow_mono {s p b r d x y : Int} (h : May s p b r d) (xy : x ≤ y) : allow s p b r x ≤ allow s p b r y := by
  by_cases hx : x < 0
  · rw [allow_neg _ _ _ _ _ hx]
    by_cases hy : y < 0
    · rw [allow_neg _ _ _ _ _ hy]; exact Int.le_refl _
    · exact (allow_rate h (by omega)).2.2
  · obtain ⟨s0, s1, b0, b1, r0, p0, p1, d0, d1⟩ := h
    have m1 : p * x ≤ p * y := Int.mul_le_mul_of_nonneg_left xy (by omega)
    have m2 : r * x ≤ r * y := Int.mul_le_mul_of_nonneg_left xy (by omega)
    rw [allow_pos _ _ _ _ _ (by omega), allow_pos _ _ _ _ _ (by omega)]; omega

def z0 : Fl := ⟨0, 0, 0, 0, 0⟩
/-- With more time. -/
def slow (f : Fl) (m : Int) : Fl := ⟨f.s, f.p, f.b, f.r, f.d + m⟩
/-- Of the first j places: the flows but the one at place k; with more time for that one; turned round by k. -/
def lessTo (l : List Fl) (k : Nat) : Nat → List Fl
  | 0 => []
  | j + 1 => if j = k then lessTo l k j else lessTo l k j ++ [l.getD j z0]
def laterTo (l : List Fl) (k : Nat) (m : Int) : Nat → List Fl
  | 0 => []
  | j + 1 => laterTo l k m j ++ [if j = k then slow (l.getD j z0) m else l.getD j z0]
def turnTo (l : List Fl) (k : Nat) : Nat → List Fl
  | 0 => []
  | j + 1 => turnTo l k j ++ [l.getD ((j + k) % l.length) z0]
theorem getD_eq {l : List Fl} {j : Nat} (h : j < l.length) : l.getD j z0 = l[j] := by simp [h]
theorem slow_e {f : Fl} (h : f.may) {m : Int} (hm : 0 ≤ m) (t : Int) : (slow f m).e t ≤ f.e t := allow_mono h (by simp only [slow]; omega)
theorem slow_may {f : Fl} (h : f.may) {m : Int} (hm : 0 ≤ m) (h1 : f.d + m ≤ 100) : (slow f m).may := by
  obtain ⟨s0, s1, b0, b1, r0, p0, p1, d0, d1⟩ := h
  unfold Fl.may slow
  constructor <;> dsimp only <;> omega
theorem less_len (l : List Fl) (k : Nat) : ∀ j, (lessTo l k j).length ≤ j := by
  intro j
  induction j with
  | zero => simp [lessTo]
  | succ j ih =>
    unfold lessTo
    split
    · omega
    · rw [List.length_append, List.length_singleton]; omega
theorem later_len (l : List Fl) (k : Nat) (m : Int) : ∀ j, (laterTo l k m j).length = j := by
  intro j
  induction j with
  | zero => simp [laterTo]
  | succ j ih => simp [laterTo, ih]
theorem turn_len (l : List Fl) (k : Nat) : ∀ j, (turnTo l k j).length = j := by
  intro j
  induction j with
  | zero => simp [turnTo]
  | succ j ih => simp [turnTo, ih]
theorem less_may {l : List Fl} (k : Nat) (hm : ∀ f ∈ l, f.may) : ∀ j, j ≤ l.length → ∀ f ∈ lessTo l k j, f.may := by
  intro j
  induction j with
  | zero => intro _ f hf; simp [lessTo] at hf
  | succ j ih =>
    intro hj f hf
    unfold lessTo at hf
    split at hf
    · exact ih (by omega) f hf
    · rcases List.mem_append.1 hf with h | h
      · exact ih (by omega) f h
      · rw [List.mem_singleton] at h
        rw [h, getD_eq (by omega)]
        exact hm _ (List.getElem_mem _)
theorem later_may {l : List Fl} (k : Nat) (m : Int) (h0 : 0 ≤ m) (h1 : (l.getD k z0).d + m ≤ 100) (hm : ∀ f ∈ l, f.may) : ∀ j, j ≤ l.length → ∀ f ∈ laterTo l k m j, f.may := by
  intro j
  induction j with
  | zero => intro _ f hf; simp [laterTo] at hf
  | succ j ih =>
    intro hj f hf
    unfold laterTo at hf
    rcases List.mem_append.1 hf with h | h
    · exact ih (by omega) f h
    · rw [List.mem_singleton] at h
      have e : (l.getD j z0).may := by rw [getD_eq (by omega)]; exact hm _ (List.getElem_mem _)
      rw [h]
      split
      · rename_i hjk; subst hjk; exact slow_may e h0 h1
      · exact e
theorem turn_may {l : List Fl} (k : Nat) (hl : 0 < l.length) (hm : ∀ f ∈ l, f.may) : ∀ j, ∀ f ∈ turnTo l k j, f.may := by
  intro j
  induction j with
  | zero => intro f hf; simp [turnTo] at hf
  | succ j ih =>
    intro f hf
    unfold turnTo at hf
    rcases List.mem_append.1 hf with h | h
    · exact ih f h
    · rw [List.mem_singleton] at h
      rw [h, getD_eq (Nat.mod_lt _ hl)]
      exact hm _ (List.getElem_mem _)
theorem e_nonneg {f : Fl} (h : f.may) (t : Int) : 0 ≤ f.e t := by
  unfold Fl.e
  by_cases g : t - f.d < 0
  · rw [allow_neg _ _ _ _ _ g]; exact Int.le_refl _
  · exact (allow_rate h (by omega)).2.2
theorem less_tot {l : List Fl} (k : Nat) (hm : ∀ f ∈ l, f.may) (t : Int) : ∀ j, j ≤ l.length → tot t (lessTo l k j) ≤ tot t (l.take j) := by
  intro j
  induction j with
  | zero => intro _; simp [lessTo]
  | succ j ih =>
    intro hj
    have := ih (by omega)
    rw [tot_take_succ t l j (by omega)]
    have e := e_nonneg (hm _ (List.getElem_mem (show j < l.length by omega))) t
    unfold lessTo
    split
    · omega
    · rw [tot_append, getD_eq (by omega)]; simp only [tot]; omega
theorem later_tot {l : List Fl} (k : Nat) (m : Int) (h0 : 0 ≤ m) (hm : ∀ f ∈ l, f.may) (t : Int) : ∀ j, j ≤ l.length → tot t (laterTo l k m j) ≤ tot t (l.take j) := by
  intro j
  induction j with
  | zero => intro _; simp [laterTo]
  | succ j ih =>
    intro hj
    have := ih (by omega)
    rw [tot_take_succ t l j (by omega)]
    have mm := hm _ (List.getElem_mem (show j < l.length by omega))
    have e := slow_e mm h0 t
    unfold laterTo
    rw [tot_append, getD_eq (by omega)]
    split <;> simp only [tot] <;> omega
theorem turn_take {l : List Fl} (k : Nat) (hk : k < l.length) : ∀ j, j ≤ l.length → turnTo l k j = (l.drop k ++ l.take k).take j := by
  intro j
  induction j with
  | zero => intro _; simp [turnTo]
  | succ j ih =>
    intro hj
    have hlen : (l.drop k ++ l.take k).length = l.length := by simp; omega
    unfold turnTo
    rw [ih (by omega), List.take_succ_eq_append_getElem (by omega)]
    congr 2
    rw [getD_eq (Nat.mod_lt _ (by omega))]
    by_cases h : j < l.length - k
    · rw [List.getElem_append_left (by simp; omega)]
      simp only [List.getElem_drop]
      congr 1
      rw [Nat.mod_eq_of_lt (by omega)]; omega
    · rw [List.getElem_append_right (by simp; omega)]
      simp only [List.getElem_take, List.length_drop]
      congr 1
      rw [Nat.mod_eq_sub_mod (by omega), Nat.mod_eq_of_lt (by omega)]; omega
theorem turn_tot {l : List Fl} (k : Nat) (hk : k < l.length) (t : Int) : tot t (turnTo l k l.length) = tot t l := by
  rw [turn_take k hk _ (Nat.le_refl _), List.take_of_length_le (by simp; omega), tot_append]
  have := tot_append t (l.take k) (l.drop k)
  rw [List.take_append_drop] at this
  omega
theorem viol_less {l : List Fl} (k : Nat) (hm : ∀ f ∈ l, f.may) (h : viol l = 0) : viol (lessTo l k l.length) = 0 :=
  viol_zero_of_le (fun t _ _ => by have := less_tot k hm t l.length (Nat.le_refl _); rwa [List.take_of_length_le (Nat.le_refl _)] at this) h
theorem viol_later {l : List Fl} (k : Nat) (m : Int) (h0 : 0 ≤ m) (hm : ∀ f ∈ l, f.may) (h : viol l = 0) : viol (laterTo l k m l.length) = 0 :=
  viol_zero_of_le (fun t _ _ => by have := later_tot k m h0 hm t l.length (Nat.le_refl _); rwa [List.take_of_length_le (Nat.le_refl _)] at this) h
theorem viol_turn {l : List Fl} (k : Nat) (hk : k < l.length) : viol (turnTo l k l.length) = viol l := viol_eq_of_eq fun t => turn_tot k hk t
end Go.Proofs.YtcnmajndackohaaDoor
