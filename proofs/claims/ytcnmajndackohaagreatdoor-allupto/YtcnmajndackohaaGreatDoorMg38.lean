import Derived.Test.YtcnmajndackohaaGreatDoorMg35
import Derived.Test.YtcnmajndackohaaGreatDoorMg20
import Derived.Sort.OwnSortedInts
/-
  A row of numbers of its own, sorted.
-/
namespace Go.Proofs.YtcnmajndackohaaGreatDoor
open Go.RowKit
def srt (z : List Int) : List Int := z.mergeSort fun x y => decide (x ≤ y)
theorem srt_len (z : List Int) : (srt z).length = z.length := List.length_mergeSort z
theorem psort (w : World) (b : Nat) (v : Value) (z : List Int) (h : w.ownsRow b 3 1 v z.length (icells z)) (hz : z.length ≤ 1000000000) :
    Calls Tryz.prog 89 #[v] w fun e w' => e = .returned (.tuple #[]) ∧ w'.ownsRow b 3 1 v z.length (icells (srt z)) ∧ w.grownBy w' v.ownBlock := by
  have h0 := h
  rcases h.2 with ⟨rfl, hn⟩ | ⟨g, cap, cur, rfl, hb, hcur, h1, h2, h3, h4⟩
  · have e : z = [] := List.eq_nil_of_length_eq_zero hn
    subst e
    refine (Tryz.slices_Sort_int_none none 0 w).mono ?_
    rintro e w' ⟨rfl, rfl⟩
    refine ⟨rfl, ?_, World.grownBy.refl _ _⟩
    rw [List.eq_nil_of_length_eq_zero ((srt_len []).trans rfl)]
    exact h0
  · have hh : Go.Sort.Holds (Value.int .i64) w g 0 z.toArray := holds_of_blockI hcur (by simpa [icells] using h4)
    refine (Tryz.slices_Sort_int g 0 cap z w hh (Array.getElem?_eq_some_iff.1 hcur).1 (by omega)).mono ?_
    rintro e w' ⟨rfl, n, os, rfl⟩
    exact ⟨rfl, ownsRow_sortedI (srt_len z) hb hcur h1 h2 h3, grownBy_sortedI _⟩
end Go.Proofs.YtcnmajndackohaaGreatDoor
/-
  Plain: the numbers of the flows that are gathered, sorted.
-/
namespace Go.Proofs.YtcnmajndackohaaGreatDoor
open Go.RowKit
def nbO (want : Bool) (k : Nat) : Option FS → List Int
  | none => []
  | some f => if f.torn = want then [(k : Int)] else []
/-- The numbers of those that are left no more. -/
def nmb (fs : Nat → Option FS) (want : Bool) (left : Nat → Bool) : Nat → List Int
  | 0 => []
  | n + 1 => nmb fs want left n ++ if left n = true then [] else nbO want n (fs n)
theorem nmb_congr {fs : Nat → Option FS} {want : Bool} {l m : Nat → Bool} : ∀ (n : Nat), (∀ k, k < n → l k = m k) → nmb fs want l n = nmb fs want m n
  | 0, _ => rfl
  | n + 1, h => by
    show nmb fs want l n ++ _ = nmb fs want m n ++ _
    rw [nmb_congr n (fun k hk => h k (by omega)), h n (by omega)]
theorem nmb_strike {fs : Nat → Option FS} {want : Bool} {l : Nat → Bool} {k : Nat} {f : FS} (hk : l k = true) (hf : fs k = some f) : ∀ (n : Nat), k < n → (nmb fs want (fun j => l j && !decide (j = k)) n).Perm (nmb fs want l n ++ if f.torn = want then [(k : Int)] else [])
  | 0, h => by omega
  | n + 1, h => by
    show (nmb fs want (fun j => l j && !decide (j = k)) n ++ if (l n && !decide (n = k)) = true then [] else nbO want n (fs n)).Perm ((nmb fs want l n ++ if l n = true then [] else nbO want n (fs n)) ++ _)
    by_cases e : n = k
    · subst e
      rw [if_pos hk, hf, nmb_congr (m := l) n (fun j hj => by
        have : j ≠ n := by omega
        simp [this])]
      simp [nbO]
    · have hs := nmb_strike (want := want) hk hf n (by omega)
      have : (l n && !decide (n = k)) = l n := by simp [e]
      rw [this]
      refine (hs.append_right _).trans ?_
      rw [List.append_assoc, List.append_assoc]
      exact List.Perm.append_left _ List.perm_append_comm
theorem nmb_start {fs : Nat → Option FS} {want : Bool} : ∀ n, nmb fs want (fun k => (adrs fs k).isSome) n = []
  | 0 => rfl
  | n + 1 => by
    show nmb fs want _ n ++ _ = []
    rw [nmb_start n]
    show [] ++ (if (adrs fs n).isSome = true then [] else nbO want n (fs n)) = []
    unfold adrs
    cases fs n <;> rfl
def nats (l : List Nat) : List Int := l.map fun (k : Nat) => (k : Int)
section
variable {x : Ln} {s : PS} {rel : Int → Int}
/-- Those that live, those that linger. -/
theorem Sim.ids (h : Sim x s rel) (want : Bool) : nmb s.fs want (fun _ => false) x.fl.length = nats (x.ids (if want then 1 else 0)) := by
  have : ∀ n, n ≤ x.fl.length → nmb s.fs want (fun _ => false) n = nats ((List.range n).filter fun (k : Nat) => decide (isOf x.fl (k : Int) = if want then 1 else 0)) := by
    intro n
    induction n with
    | zero => intro _; rfl
    | succ n ih =>
      intro hn
      show nmb s.fs want _ n ++ nbO want n (s.fs n) = _
      rw [ih (by omega), List.range_succ, List.filter_append]
      unfold nats
      rw [List.map_append]
      congr 1
      have hl : n < x.fl.length := by omega
      have hg : x.fl[n]? = some x.fl[n] := List.getElem?_eq_getElem hl
      have hi := is_at hg
      cases hf : s.fs n with
      | some f =>
        obtain ⟨st, h1, _, h3, _⟩ := h.val n f hf
        obtain ⟨st', h4, h5⟩ := (h.dom n).1 ⟨f, hf⟩
        rw [hg] at h1 h4
        obtain rfl := Option.some.inj h1
        obtain rfl := Option.some.inj h4
        have h6 := h.is _ (List.mem_of_getElem? hg)
        show (if f.torn = want then [(n : Int)] else []) = _
        rw [h3]
        cases want
        · by_cases c : x.fl[n].is = 1
          · simp [c, hi]
          · have c0 : x.fl[n].is = 0 := by omega
            simp [c0, hi]
        · by_cases c : x.fl[n].is = 1
          · simp [c, hi]
          · simp [c, hi]
      | none =>
        have h2 : ¬ x.fl[n].is < 2 := fun c => by
          obtain ⟨f, hf'⟩ := (h.dom n).2 ⟨_, hg, c⟩
          rw [hf] at hf'; cases hf'
        show [] = _
        cases want
        · have : ¬ isOf x.fl (n : Int) = 0 := by rw [hi]; omega
          simp [this]
        · have : ¬ isOf x.fl (n : Int) = 1 := by rw [hi]; omega
          simp [this]
  exact this _ (Nat.le_refl _)
end
theorem nats_sorted (x : Ln) (is : Int) : (nats (x.ids is)).Pairwise (· ≤ ·) := by
  unfold nats Ln.ids
  rw [List.pairwise_map]
  refine ((List.pairwise_lt_range (n := x.fl.length)).filter _).imp fun {a b} h => ?_
  omega
theorem srt_eq {l m : List Int} (h : l.Perm m) (hm : m.Pairwise (· ≤ ·)) : srt l = m := by
  unfold srt
  have h1 : (l.mergeSort fun x y => decide (x ≤ y)).Perm m := (List.mergeSort_perm l _).trans h
  have h2 := List.pairwise_mergeSort (le := fun x y : Int => decide (x ≤ y)) (fun a b c hab hbc => by simp at *; omega) (fun a b => by simp; omega) l
  refine h1.eq_of_pairwise (le := fun x y => x ≤ y) (fun a b _ _ hab hba => by omega) (h2.imp fun {a b} h => by simpa using h) hm
end Go.Proofs.YtcnmajndackohaaGreatDoor
/-
  Plain: what the document's Gone and Look go through, step by step.
-/
namespace Go.Proofs.YtcnmajndackohaaGreatDoor
/-- One round of Gone: not told. -/
theorem goneL_skip {now : Int} {l : List Nat} {pk : List Pk} {k i : Nat} {p : Pk} (hk : l[k]? = some i) (hp : pk[i]? = some p) (hf : fresh1 now p = false) : goneL now (l.drop k) pk = goneL now (l.drop (k + 1)) pk := by
  obtain ⟨hl, e⟩ := List.getElem?_eq_some_iff.1 hk
  rw [List.drop_eq_getElem_cons hl, e]
  conv => lhs; unfold goneL; rw [hp]
  simp only [hf]
  rfl
/-- Told. -/
theorem goneL_tell {now : Int} {l : List Nat} {pk : List Pk} {k i : Nat} {p : Pk} (hk : l[k]? = some i) (hp : pk[i]? = some p) (hf : fresh1 now p = true) : goneL now (l.drop k) pk = (p :: (goneL now (l.drop (k + 1)) (pk.modify i tell)).1, (goneL now (l.drop (k + 1)) (pk.modify i tell)).2) := by
  obtain ⟨hl, e⟩ := List.getElem?_eq_some_iff.1 hk
  rw [List.drop_eq_getElem_cons hl, e]
  conv => lhs; unfold goneL; rw [hp]
  simp only [hf, if_true]
theorem goneL_end {now : Int} {l : List Nat} {pk : List Pk} {k : Nat} (h : l.length ≤ k) : goneL now (l.drop k) pk = ([], pk) := by
  rw [List.drop_eq_nil_of_le h]; rfl
/-- All that wait, flow by flow. -/
theorem waits_sum {x : Ln} (h : Lnv x) : sm (fun k => (x.waiting (k : Int) : Int)) (fun _ => true) x.fl.length = (x.waits : Int) := by
  have e : (fun k : Nat => (x.waiting (k : Int) : Int)) = fun k : Nat => ((x.pk.countP fun p => decide (p.flow = (k : Int)) && wt p : Nat) : Int) := by
    funext k
    unfold Ln.waiting
    congr 1
    exact List.countP_congr fun p _ => by unfold wt; rw [Bool.and_assoc]
  rw [e, sm_count]
  unfold Ln.waits
  congr 1
  refine List.countP_congr fun p hp => ?_
  have hown := h.own p hp
  simp only [wt, Bool.and_eq_true, decide_eq_true_eq]
  constructor
  · rintro ⟨⟨a, _⟩, b, c⟩; exact ⟨⟨a, b⟩, c⟩
  · rintro ⟨⟨a, b⟩, c⟩
    exact ⟨⟨a, by omega⟩, b, c⟩
/-- The flows that are so, gathered one by one. -/
theorem ids_succ (x : Ln) (is : Int) (n : Nat) : (List.range (n + 1)).filter (fun (k : Nat) => decide (isOf x.fl (k : Int) = is)) = (List.range n).filter (fun (k : Nat) => decide (isOf x.fl (k : Int) = is)) ++ if isOf x.fl (n : Int) = is then [n] else [] := by
  rw [List.range_succ, List.filter_append]
  by_cases c : isOf x.fl (n : Int) = is <;> simp [c]
end Go.Proofs.YtcnmajndackohaaGreatDoor
