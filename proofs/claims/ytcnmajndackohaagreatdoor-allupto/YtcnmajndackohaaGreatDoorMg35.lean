import Derived.Test.YtcnmajndackohaaGreatDoorMg34
/-
  Plain: a flow that comes: the program's line and the document's.
-/
namespace Go.Proofs.YtcnmajndackohaaGreatDoor
section
variable {x : Ln} {s : PS} {rel : Int → Int}
theorem is_snoc {fl : List Stt} {st : Stt} {j : Int} (h : j.toNat < fl.length) : isOf (fl ++ [st]) j = isOf fl j := by
  unfold isOf
  rw [List.getElem?_append_left h]
theorem due_snoc {fl : List Stt} {st : Stt} {j : Int} (h : j.toNat < fl.length) : dueOf (fl ++ [st]) j = dueOf fl j := by
  unfold dueOf
  rw [List.getElem?_append_left h]
theorem Sim.comes (h : Sim x s rel) {f : Fl} (hf : f.may) (hod : ∃ B, Od { x with fl := x.fl ++ [⟨f, 0⟩] } B) (a : Nat) (o : Whose) :
    Sim { x with fl := x.fl ++ [⟨f, 0⟩] } { s with fs := upd s.fs s.num (FS.fresh a f), num := s.num + 1, o := o } rel := by
  have hown := h.inv.own
  have hno : ∀ p ∈ x.pk, p.flow ≠ (x.fl.length : Int) := fun p hp e => by
    have := hown p hp (by omega)
    omega
  have hc : ∀ c : Pk → Bool, (∀ p, c p = true → p.flow = (x.fl.length : Int)) → x.pk.countP c = 0 := fun c hh => by
    rw [List.countP_eq_zero]
    exact fun p hp hx => hno p hp (hh p hx)
  refine ⟨hod, h.rr, ?_, ?_, h.tl, h.rb, ?_, h.now, ?_, ?_, ?_, ?_, h.O, h.br, h.G⟩
  · intro p hp p0 pw pi
    have e : isOf (x.fl ++ [⟨f, 0⟩]) p.flow = 1 := pi
    rw [is_snoc (hown p hp p0)] at e
    exact h.lg p hp p0 pw e
  · intro p hp p0 pw
    show isOf (x.fl ++ [⟨f, 0⟩]) p.flow < 2
    rw [is_snoc (hown p hp p0)]
    exact h.aw p hp p0 pw
  · intro st hst
    rcases List.mem_append.1 hst with g | g
    · exact h.is st g
    · rw [List.mem_singleton.1 g]; exact .inl rfl
  · show s.num + 1 = (x.fl ++ [_]).length
    rw [List.length_append, h.num]; rfl
  · intro k
    show (∃ g, upd s.fs s.num _ k = some g) ↔ ∃ st, (x.fl ++ [⟨f, 0⟩])[k]? = some st ∧ st.is < 2
    rw [h.num]
    by_cases e : k = x.fl.length
    · subst e
      rw [upd_same, List.getElem?_append_right (Nat.le_refl _), Nat.sub_self]
      exact ⟨fun _ => ⟨⟨f, 0⟩, rfl, (by decide : (0 : Int) < 2)⟩, fun _ => ⟨_, rfl⟩⟩
    · rw [upd_far _ _ e, h.dom k]
      rcases Nat.lt_or_ge k x.fl.length with g | g
      · rw [List.getElem?_append_left g]
      · rw [List.getElem?_eq_none g, List.getElem?_eq_none (by simp; omega)]
  · intro k g hg
    have hg' : upd s.fs s.num _ k = some g := hg
    rw [h.num] at hg'
    by_cases e : k = x.fl.length
    · subst e
      rw [upd_same] at hg'
      obtain rfl := Option.some.inj hg'
      refine ⟨⟨f, 0⟩, ?_, rfl, rfl, ?_, ?_, ?_, ?_⟩
      · show (x.fl ++ [⟨f, 0⟩])[x.fl.length]? = _
        rw [List.getElem?_append_right (Nat.le_refl _), Nat.sub_self]; rfl
      · show (0 : Int) = ((x.pk.countP _ : Nat) : Int)
        rw [hc _ fun p hp => by simpa using hp]; rfl
      · show (0 : Int) = ((x.pk.countP _ : Nat) : Int)
        rw [hc]
        · rfl
        · intro p hp
          simp only [Bool.and_eq_true, decide_eq_true_eq] at hp
          exact hp.1.1
      · show [] = x.pk.filter _
        symm
        rw [List.filter_eq_nil_iff]
        exact fun p hp hx => hno p hp ((hdB_iff _ _ _).1 hx).1
      · exact Gok.new f hf _ hno
    · rw [upd_far _ _ e] at hg'
      obtain ⟨st, q1, q2⟩ := h.val k g hg'
      refine ⟨st, ?_, q2⟩
      show (x.fl ++ [⟨f, 0⟩])[k]? = _
      rw [List.getElem?_append_left (List.getElem?_eq_some_iff.1 q1).1]; exact q1
  · show s.H.Perm ((x.pk.filter (quB rel)).map fun p => enP p (dueOf (x.fl ++ [⟨f, 0⟩]) p.flow))
    have : ((x.pk.filter (quB rel)).map fun p => enP p (dueOf (x.fl ++ [⟨f, 0⟩]) p.flow)) = (x.pk.filter (quB rel)).map fun p => enP p (dueOf x.fl p.flow) := by
      refine List.map_congr_left fun p hp => ?_
      obtain ⟨h1, h2⟩ := List.mem_filter.1 hp
      rw [due_snoc (hown p h1 ((quB_iff _ _).1 h2).1)]
    rw [this]; exact h.H
theorem new_snoc (l : List Fl) (f : Fl) : Ln.new (l ++ [f]) = { Ln.new l with fl := (Ln.new l).fl ++ [⟨f, 0⟩] } := by
  unfold Ln.new
  simp
/-- The line that is new. -/
def PS.base (b : Nat) : PS := ⟨b + 1, b, fun i => if i = b then 3 else if i = b + 1 then 2 else 0, 0, 0, fun _ => none, .slice none 0 0, [], .slice none 0 0, [], 0, .slice none 0 0, []⟩
theorem sim_base (b : Nat) : Sim (Ln.new []) (PS.base b) (fun _ => 0) := by
  refine ⟨⟨[], od_new (fun f hf => (List.not_mem_nil hf).elim)⟩, fun p hp => (List.not_mem_nil hp).elim, fun p hp => (List.not_mem_nil hp).elim, fun p hp => (List.not_mem_nil hp).elim, fun p hp => (List.not_mem_nil hp).elim, fun k => (by omega), fun st hst => (List.not_mem_nil hst).elim, rfl, rfl, fun k => ?_, fun k f hf => (by cases hf), List.Perm.refl _, rfl, rfl, rfl⟩
  constructor
  · rintro ⟨f, hf⟩; cases hf
  · rintro ⟨st, hst, _⟩; simp [Ln.new] at hst
end
end Go.Proofs.YtcnmajndackohaaGreatDoor
/-
  Plain: sums over what is left.
-/
namespace Go.Proofs.YtcnmajndackohaaGreatDoor
open Go.RowKit
def sm (g : Nat → Int) (left : Nat → Bool) : Nat → Int
  | 0 => 0
  | n + 1 => sm g left n + if left n = true then g n else 0
theorem sm_congr {g : Nat → Int} {l m : Nat → Bool} : ∀ (n : Nat), (∀ k, k < n → l k = m k) → sm g l n = sm g m n
  | 0, _ => rfl
  | n + 1, h => by
    show sm g l n + _ = sm g m n + _
    rw [sm_congr n (fun k hk => h k (by omega)), h n (by omega)]
theorem sm_strike {g : Nat → Int} {l : Nat → Bool} {k : Nat} (hk : l k = true) : ∀ (n : Nat), k < n → sm g l n = sm g (fun j => l j && !decide (j = k)) n + g k
  | 0, h => by omega
  | n + 1, h => by
    show sm g l n + (if l n = true then g n else 0) = (sm g (fun j => l j && !decide (j = k)) n + if (l n && !decide (n = k)) = true then g n else 0) + g k
    by_cases e : n = k
    · subst e
      rw [if_pos hk, sm_congr (m := fun j => l j && !decide (j = n)) n (fun j hj => by
        have : j ≠ n := by omega
        simp [this])]
      simp
    · rw [sm_strike hk n (by omega)]
      have : (l n && !decide (n = k)) = l n := by simp [e]
      rw [this]
      omega
theorem sm_zero {g : Nat → Int} {l : Nat → Bool} (h : ∀ k, l k = false) : ∀ n, sm g l n = 0
  | 0 => rfl
  | n + 1 => by
    show sm g l n + _ = 0
    rw [sm_zero h n, h n]; rfl
theorem sm_nonneg {g : Nat → Int} {l : Nat → Bool} (h : ∀ k, l k = true → 0 ≤ g k) : ∀ n, 0 ≤ sm g l n
  | 0 => Int.le_refl _
  | n + 1 => by
    show 0 ≤ sm g l n + _
    have := sm_nonneg h n
    split
    · have := h n (by assumption); omega
    · omega
theorem sm_le {g : Nat → Int} {l : Nat → Bool} {c : Int} (c0 : 0 ≤ c) (h : ∀ k, l k = true → g k ≤ c) : ∀ n : Nat, sm g l n ≤ n * c
  | 0 => by simp [sm]
  | n + 1 => by
    show sm g l n + _ ≤ ((n + 1 : Nat) : Int) * c
    have := sm_le c0 h n
    rw [Int.natCast_add, Int.add_mul]
    split
    · have := h n (by assumption); omega
    · omega
/-- All the packets of flows that wait. -/
theorem sm_count (pk : List Pk) (c : Pk → Bool) : ∀ n : Nat, sm (fun k => ((pk.countP fun p => decide (p.flow = (k : Int)) && c p : Nat) : Int)) (fun _ => true) n = ((pk.countP fun p => decide (0 ≤ p.flow) && decide (p.flow < (n : Int)) && c p : Nat) : Int)
  | 0 => by
    show (0 : Int) = _
    rw [List.countP_eq_zero.2 fun p _ => by simp; omega]
    rfl
  | n + 1 => by
    show sm _ _ n + _ = _
    rw [sm_count pk c n, if_pos rfl, ← Int.natCast_add]
    congr 1
    induction pk with
    | nil => rfl
    | cons p l ih =>
      simp only [List.countP_cons]
      have h1 : (if (decide (0 ≤ p.flow) && decide (p.flow < ((n + 1 : Nat) : Int)) && c p) = true then 1 else 0) = (if (decide (0 ≤ p.flow) && decide (p.flow < (n : Int)) && c p) = true then 1 else 0) + (if (decide (p.flow = (n : Int)) && c p) = true then 1 else 0) := by
        cases c p
        · simp
        · simp only [Bool.and_true, Bool.and_eq_true, decide_eq_true_eq]
          split <;> split <;> split <;> omega
      omega
def waF (fs : Nat → Option FS) (k : Nat) : Int := match fs k with
  | none => 0
  | some f => f.wa
section
variable {x : Ln} {s : PS} {rel : Int → Int}
theorem Sim.waits (h : Sim x s rel) : sm (waF s.fs) (fun k => (adrs s.fs k).isSome) x.fl.length = (x.waits : Int) := by
  have e1 : sm (waF s.fs) (fun k => (adrs s.fs k).isSome) x.fl.length = sm (fun k => ((x.pk.countP fun p => decide (p.flow = (k : Int)) && wt p : Nat) : Int)) (fun _ => true) x.fl.length := by
    have : ∀ n, n ≤ x.fl.length → sm (waF s.fs) (fun k => (adrs s.fs k).isSome) n = sm (fun k => ((x.pk.countP fun p => decide (p.flow = (k : Int)) && wt p : Nat) : Int)) (fun _ => true) n := by
      intro n
      induction n with
      | zero => intro _; rfl
      | succ n ih =>
        intro hn
        show sm _ _ n + _ = sm _ _ n + _
        rw [ih (by omega)]
        congr 1
        rw [if_pos rfl]
        show (if (adrs s.fs n).isSome = true then waF s.fs n else 0) = ((x.pk.countP fun p => decide (p.flow = (n : Int)) && wt p : Nat) : Int)
        cases hf : s.fs n with
        | some f =>
          have a : adrs s.fs n = some f.a := by unfold adrs; rw [hf]; rfl
          have b : waF s.fs n = f.wa := by unfold waF; rw [hf]
          obtain ⟨st, e1, _, _, _, e5, _⟩ := h.val n f hf
          rw [a, b, if_pos (by rfl), e5]
          unfold Ln.waiting
          congr 1
          exact List.countP_congr fun p _ => by unfold wt; rw [Bool.and_assoc]
        | none =>
          have a : adrs s.fs n = none := by unfold adrs; rw [hf]; rfl
          rw [a, if_neg (by simp), List.countP_eq_zero.2]
          · rfl
          · intro p hp hc
            simp only [Bool.and_eq_true, decide_eq_true_eq] at hc
            have h2 := h.aw p hp (by omega) hc.2
            rw [hc.1] at h2
            cases hst : x.fl[n]? with
            | none => rw [List.getElem?_eq_none_iff] at hst; omega
            | some st =>
              rw [is_at hst] at h2
              obtain ⟨f, hf'⟩ := (h.dom n).2 ⟨st, hst, h2⟩
              rw [hf] at hf'; cases hf'
    exact this _ (Nat.le_refl _)
  rw [e1, sm_count]
  unfold Ln.waits
  congr 1
  refine List.countP_congr fun p hp => ?_
  have hown := h.inv.own p hp
  simp only [wt, Bool.and_eq_true, decide_eq_true_eq]
  constructor
  · rintro ⟨⟨a, _⟩, b, c⟩; exact ⟨⟨a, b⟩, c⟩
  · rintro ⟨⟨a, b⟩, c⟩
    refine ⟨⟨a, ?_⟩, b, c⟩
    omega
end
end Go.Proofs.YtcnmajndackohaaGreatDoor
