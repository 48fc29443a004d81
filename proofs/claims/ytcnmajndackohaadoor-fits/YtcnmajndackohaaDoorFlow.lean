/-
  Plain: lists of flows, what of all of them may come, the least violation.
-/
import Derived.Test.YtcnmajndackohaaDoorMath
namespace Go.Proofs.YtcnmajndackohaaDoor

/-- A flow's numbers. -/
structure Fl where
  s : Int
  p : Int
  b : Int
  r : Int
  d : Int
def Fl.may (f : Fl) : Prop := May f.s f.p f.b f.r f.d
def Fl.e (f : Fl) (t : Int) : Int := allow f.s f.p f.b f.r (t - f.d)
/-- What of all flows may come by the tick t. -/
def tot (t : Int) : List Fl → Int
  | [] => 0
  | f :: l => f.e t + tot t l
theorem tot_append (t : Int) (l m : List Fl) : tot t (l ++ m) = tot t l + tot t m := by
  induction l with
  | nil => simp [tot]
  | cons f l ih => simp only [List.cons_append, tot, ih]; omega
theorem tot_take_succ (t : Int) (l : List Fl) (k : Nat) (h : k < l.length) : tot t (l.take (k + 1)) = tot t (l.take k) + (l[k]'h).e t := by
  rw [List.take_succ_eq_append_getElem h, tot_append]; simp [tot]
theorem e_bd {f : Fl} (h : f.may) (t : Int) (t1 : t ≤ 100000) : 0 ≤ f.e t ∧ f.e t ≤ 101000 := by
  unfold Fl.e
  by_cases g : t - f.d < 0
  · rw [allow_neg _ _ _ _ _ g]; omega
  · have := allow_rate h (x := t - f.d) (by omega)
    obtain ⟨s0, s1, b0, b1, r0, p0, p1, d0, d1⟩ := h
    have m2 : f.p * (t - f.d) ≤ 1200000 := by
      have := Int.mul_le_mul p1 (show t - f.d ≤ 100000 by omega) (by omega) (by decide); omega
    omega
theorem tot_bd {l : List Fl} (h : ∀ f ∈ l, f.may) (t : Int) (t1 : t ≤ 100000) : 0 ≤ tot t l ∧ tot t l ≤ 101000 * l.length := by
  induction l with
  | nil => simp [tot]
  | cons f l ih =>
    have a := ih fun g hg => h g (List.mem_cons_of_mem _ hg)
    have b := e_bd (h f (List.mem_cons_self ..)) t t1
    simp only [tot, List.length_cons]; omega

/-- Is the tick t a violation? -/
def vioB (l : List Fl) (t : Int) : Bool := decide (0 < tot t l) && decide (t < tot t l + 7)
/-- The least violation among n ticks from t on; 0: there is none. -/
def seek (l : List Fl) : Nat → Int → Int
  | 0, _ => 0
  | n + 1, t => if vioB l t = true then t else seek l n (t + 1)
def viol (l : List Fl) : Int := seek l 1300 1
theorem seek_spec (l : List Fl) (n : Nat) : ∀ t : Int, 0 < t → (seek l n t = 0 ∧ ∀ u, t ≤ u → u < t + n → vioB l u = false) ∨ (t ≤ seek l n t ∧ seek l n t < t + n ∧ vioB l (seek l n t) = true ∧ ∀ u, t ≤ u → u < seek l n t → vioB l u = false) := by
  induction n with
  | zero => intro t _; left; exact ⟨rfl, fun u h1 h2 => by omega⟩
  | succ n ih =>
    intro t ht
    by_cases hv : vioB l t = true
    · right
      have : seek l (n + 1) t = t := by simp [seek, hv]
      rw [this]; exact ⟨by omega, by omega, hv, fun u h1 h2 => by omega⟩
    · have e : seek l (n + 1) t = seek l n (t + 1) := by simp [seek, hv]
      rw [e]
      have hv' : vioB l t = false := by simpa using hv
      rcases ih (t + 1) (by omega) with ⟨h1, h2⟩ | ⟨h1, h2, h3, h4⟩
      · left; exact ⟨h1, fun u a b => by
          by_cases e : u = t
          · rw [e]; exact hv'
          · exact h2 u (by omega) (by omega)⟩
      · right; exact ⟨by omega, by omega, h3, fun u a b => by
          by_cases e : u = t
          · rw [e]; exact hv'
          · exact h4 u (by omega) b⟩
theorem viol_spec (l : List Fl) : (viol l = 0 ∧ ∀ u, 1 ≤ u → u ≤ 1300 → vioB l u = false) ∨ (1 ≤ viol l ∧ viol l ≤ 1300 ∧ vioB l (viol l) = true ∧ ∀ u, 1 ≤ u → u < viol l → vioB l u = false) := by
  rcases seek_spec l 1300 1 (by decide) with ⟨h1, h2⟩ | ⟨h1, h2, h3, h4⟩
  · left; exact ⟨h1, fun u a b => h2 u a (by omega)⟩
  · right; exact ⟨h1, by unfold viol; omega, h3, h4⟩
theorem seek_step_no {l : List Fl} {n : Nat} {t : Int} (h : vioB l t = false) : seek l (n + 1) t = seek l n (t + 1) := by simp [seek, h]
theorem seek_step_yes {l : List Fl} {n : Nat} {t : Int} (h : vioB l t = true) : seek l (n + 1) t = t := by simp [seek, h]
/-- One that may be, out of raw numbers. -/
def mk (f : Fl) : Fl := ⟨2 + pk f.s 7, pk f.r 13 + pk f.p (13 - pk f.r 13), 2 + pk f.s 7 + pk f.b (31 - (2 + pk f.s 7)), pk f.r 13, 2 + pk f.s 7 + pk f.d (101 - (2 + pk f.s 7))⟩
theorem mk_may (f : Fl) : (mk f).may := by
  obtain ⟨s, p, b, r, d⟩ := f
  have a0 := pk_nonneg s 7 (by decide)
  have a1 := pk_lt s 7 (by decide)
  have q0 := pk_nonneg r 13 (by decide)
  have q1 := pk_lt r 13 (by decide)
  have u0 := pk_nonneg b (31 - (2 + pk s 7)) (by omega)
  have u1 := pk_lt b (31 - (2 + pk s 7)) (by omega)
  have x0 := pk_nonneg p (13 - pk r 13) (by omega)
  have x1 := pk_lt p (13 - pk r 13) (by omega)
  have y0 := pk_nonneg d (101 - (2 + pk s 7)) (by omega)
  have y1 := pk_lt d (101 - (2 + pk s 7)) (by omega)
  unfold Fl.may mk
  constructor <;> dsimp only <;> omega
theorem map_take_succ (l : List Fl) (k : Nat) (h : k < l.length) : (l.take (k + 1)).map mk = (l.take k).map mk ++ [mk (l[k]'h)] := by
  rw [List.take_succ_eq_append_getElem h, List.map_append]; rfl
theorem viol_range (l : List Fl) : 0 ≤ viol l ∧ viol l ≤ 1300 := by
  rcases viol_spec l with ⟨h, _⟩ | ⟨h1, h2, _⟩ <;> omega
end Go.Proofs.YtcnmajndackohaaDoor
