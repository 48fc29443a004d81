import Derived.Test.YtcnmajndackohaaGreatDoorLateMg24
/-
  Plain: of each flow packets begin in their order; what began, one by one.
-/
namespace Go.Proofs.YtcnmajndackohaaGreatDoor

theorem pickF_tie {now : Int} {fl : List Stt} {flows : Bool} : ∀ (l : List Pk) (i : Nat) (b : Option Bst),
    pickF now fl flows l i b = b ∨
    ∃ l1 p l2, l = l1 ++ p :: l2 ∧ elB now flows p = true ∧ pickF now fl flows l i b = some ⟨i + l1.length, key fl flows p, p.flow⟩ ∧ (∀ q ∈ l1, elB now flows q = true → key fl flows p < key fl flows q ∨ (key fl flows p = key fl flows q ∧ p.flow < q.flow)) ∧ ∀ c, b = some c → key fl flows p < c.due ∨ (key fl flows p = c.due ∧ p.flow < c.flow)
  | [], _, _ => .inl rfl
  | p :: l, i, b => by
    by_cases g : elB now flows p = true ∧ better fl flows p b = true
    · have e : pickF now fl flows (p :: l) i b = pickF now fl flows l (i + 1) (some ⟨i, key fl flows p, p.flow⟩) := by
        show pickF now fl flows l (i + 1) _ = _; rw [if_pos g]
      have hb : ∀ c, b = some c → key fl flows p < c.due ∨ (key fl flows p = c.due ∧ p.flow < c.flow) := by
        rintro c rfl
        have := g.2
        unfold better at this
        simpa only [Bool.or_eq_true, Bool.and_eq_true, decide_eq_true_eq] using this
      rcases pickF_tie l (i + 1) (some ⟨i, key fl flows p, p.flow⟩) with h1 | ⟨l1, q, l2, rfl, h2, h3, h4, h5⟩
      · exact .inr ⟨[], p, l, rfl, g.1, by rw [e, h1]; rfl, (fun q hq => by cases hq), hb⟩
      · have h5' : key fl flows q < key fl flows p ∨ (key fl flows q = key fl flows p ∧ q.flow < p.flow) := h5 _ rfl
        refine .inr ⟨p :: l1, q, l2, rfl, h2, by rw [e, h3]; simp; omega, ?_, ?_⟩
        · intro z hz he
          rcases List.mem_cons.1 hz with rfl | hz
          · exact h5'
          · exact h4 z hz he
        · intro c hc
          have := hb c hc
          omega
    · have e : pickF now fl flows (p :: l) i b = pickF now fl flows l (i + 1) b := by
        show pickF now fl flows l (i + 1) _ = _; rw [if_neg g]
      rcases pickF_tie l (i + 1) b with h1 | ⟨l1, q, l2, rfl, h2, h3, h4, h5⟩
      · exact .inl (by rw [e, h1])
      · refine .inr ⟨p :: l1, q, l2, rfl, h2, by rw [e, h3]; simp; omega, ?_, h5⟩
        intro z hz he
        rcases List.mem_cons.1 hz with rfl | hz
        · cases b with
          | none => exact absurd ⟨he, rfl⟩ g
          | some c =>
            have a := h5 c rfl
            have k : ¬ better fl flows z (some c) = true := fun k => g ⟨he, k⟩
            unfold better at k
            simp only [Bool.or_eq_true, Bool.and_eq_true, decide_eq_true_eq] at k
            omega
        · exact h4 z hz he
theorem split_uniq {α : Type} {l1 m1 : List α} {p q : α} {l2 m2 : List α} (h : l1 ++ p :: l2 = m1 ++ q :: m2) (hl : l1.length = m1.length) : l1 = m1 ∧ p = q ∧ l2 = m2 := by
  obtain ⟨a, b⟩ := List.append_inj h hl
  simp only [List.cons.injEq] at b
  exact ⟨a, b.1, b.2⟩
theorem first_tie {x : Ln} {flows : Bool} {l1 l2 : List Pk} {p : Pk} {b : Bst} (h : x.first flows = some b) (e : x.pk = l1 ++ p :: l2) (hi : b.i = l1.length) :
    elB x.now flows p = true ∧ ∀ q ∈ l1, elB x.now flows q = true → key x.fl flows p < key x.fl flows q ∨ (key x.fl flows p = key x.fl flows q ∧ p.flow < q.flow) := by
  unfold Ln.first at h
  rcases pickF_tie (now := x.now) (fl := x.fl) (flows := flows) x.pk 0 none with h1 | ⟨m1, q, m2, e2, h2, h3, h4, _⟩
  · rw [h1] at h; cases h
  · rw [h3] at h
    have hb : (⟨0 + m1.length, key x.fl flows q, q.flow⟩ : Bst) = b := Option.some.inj h
    have hl : m1.length = l1.length := by
      have : b.i = 0 + m1.length := by rw [← hb]
      omega
    obtain ⟨rfl, rfl, rfl⟩ := split_uniq (e2.symm.trans e) hl
    exact ⟨h2, h4⟩
theorem cfm_tail {f : Fl} {k : Int} : ∀ {a b : List Sk}, Cfm f k (a ++ b) → Cfm f k b
  | [], _, h => h
  | _ :: a, _, h => cfm_tail (a := a) h.2
/-- Of a flow packets are ready in their order. -/
theorem ready_order {x : Ln} (h : Lnv x) {l1 l2 : List Pk} {p : Pk} (e : x.pk = l1 ++ p :: l2) (h0 : 0 ≤ p.flow) (hr : 0 ≤ p.ready) : ∀ q ∈ l1, q.flow = p.flow → 0 ≤ q.ready ∧ q.ready ≤ p.ready := by
  intro q hq hf
  have hp : p ∈ x.pk := by rw [e]; simp
  have hl := h.own p hp h0
  have c := h.cf p.flow.toNat _ (List.getElem?_eq_getElem hl)
  rw [e, List.map_append, List.map_cons, List.reverse_append, List.reverse_cons, List.append_assoc] at c
  have c2 := cfm_tail c
  have c3 := c2.1 (show p.flow = (p.flow.toNat : Int) by omega) hr
  exact confL_ready c3.2 q.sk (List.mem_reverse.2 (List.mem_map_of_mem hq)) (show q.flow = (p.flow.toNat : Int) by omega)

/-- The packets of flow k that have begun. -/
def stf (k : Int) (p : Pk) : Bool := decide (p.flow = k) && decide (0 ≤ p.start)
/-- What began is B (in its order): of each flow in its order, one by one. -/
structure Od (x : Ln) (B : List Pk) : Prop where
  inv : Lnv x
  stb : Stb x
  sq : ∀ l1 p l2, x.pk = l1 ++ p :: l2 → p.seq = ((l1.countP fun q => decide (q.flow = p.flow) : Nat) : Int)
  pf : ∀ l1 p l2, x.pk = l1 ++ p :: l2 → 0 ≤ p.start → ∀ q ∈ l1, q.flow = p.flow → 0 ≤ q.start
  dr : ∀ l1 p l2, x.pk = l1 ++ p :: l2 → ∀ q ∈ l1, q.flow = p.flow → q.dropped = true → p.dropped = true
  dz : ∀ p ∈ x.pk, p.dropped = true → 0 ≤ p.flow ∧ p.start < 0 ∧ 1 ≤ isOf x.fl p.flow
  od : ∀ p ∈ x.pk, p.flow < 0 → p.flow = -1 ∧ 0 ≤ p.ready ∧ p.ready ≤ x.now
  bl : B.length = x.began.length
  ba : ∀ (j i : Nat), x.began[j]? = some i → ∃ p, x.pk[i]? = some p ∧ B[j]? = some (untold p)
  bo : ∀ b1 b c b2, B = b1 ++ b :: c :: b2 → b.start + b.size ≤ c.start
  nd : x.began.Nodup
  fb : ∀ k, B.filter (fun p => decide (p.flow = k)) = (x.pk.filter (stf k)).map untold
theorem od_new {l : List Fl} (h : ∀ f ∈ l, f.may) : Od (Ln.new l) [] := by
  refine ⟨lnv_new h, stb_new l, ?_, ?_, ?_, ?_, ?_, rfl, ?_, ?_, List.nodup_nil, fun _ => rfl⟩
  · intro l1 p l2 e; have e' : [] = l1 ++ p :: l2 := e; simp at e'
  · intro l1 p l2 e; have e' : [] = l1 ++ p :: l2 := e; simp at e'
  · intro l1 p l2 e; have e' : [] = l1 ++ p :: l2 := e; simp at e'
  · intro p hp; cases hp
  · intro p hp; cases hp
  · intro j i e; have e' : ([] : List Nat)[j]? = some i := e; simp at e'
  · intro b1 b c b2 e; simp at e
theorem snoc_split {α : Type} {l : List α} {x : α} {l1 : List α} {p : α} {l2 : List α} (h : l ++ [x] = l1 ++ p :: l2) : (l2 = [] ∧ l1 = l ∧ p = x) ∨ ∃ m, l2 = m ++ [x] ∧ l = l1 ++ p :: m := by
  rcases List.eq_nil_or_concat l2 with rfl | ⟨m, y, rfl⟩
  · left
    have := List.append_inj' h rfl
    simp at this
    exact ⟨rfl, this.1.symm, this.2.symm⟩
  · right
    rw [List.concat_eq_append] at h ⊢
    have h' : l ++ [x] = (l1 ++ p :: m) ++ [y] := by rw [h]; simp
    have := List.append_inj' h' rfl
    simp at this
    exact ⟨m, by rw [this.2], this.1⟩
/-- A packet is brought. -/
theorem Od.push {x : Ln} {B : List Pk} (o : Od x B) {p : Pk} (n : New x.now x.fl x.pk p) (hs : p.start < 0) (hq : p.seq = (x.seqOf p.flow : Int)) (hi : 0 ≤ p.flow → isOf x.fl p.flow = 0) (ho : p.flow < 0 → p.flow = -1 ∧ 0 ≤ p.ready ∧ p.ready ≤ x.now) (hst : Stb { x with pk := x.pk ++ [p] }) : Od { x with pk := x.pk ++ [p] } B := by
  refine ⟨o.inv.push n, hst, ?_, ?_, ?_, ?_, ?_, o.bl, ?_, o.bo, o.nd, ?_⟩
  · intro l1 q l2 e
    rcases snoc_split e with ⟨_, rfl, rfl⟩ | ⟨m, _, e'⟩
    · exact hq
    · exact o.sq l1 q m e'
  · intro l1 q l2 e h0
    rcases snoc_split e with ⟨_, rfl, rfl⟩ | ⟨m, _, e'⟩
    · omega
    · exact o.pf l1 q m e' h0
  · intro l1 q l2 e z hz hzf hzd
    rcases snoc_split e with ⟨_, rfl, rfl⟩ | ⟨m, _, e'⟩
    · have := o.dz z hz hzd
      rw [hzf] at this
      have := hi this.1
      omega
    · exact o.dr l1 q m e' z hz hzf hzd
  · intro q hq hd
    rcases List.mem_append.1 hq with hq | hq
    · exact o.dz q hq hd
    · obtain rfl := List.mem_singleton.1 hq; rw [n.dr] at hd; cases hd
  · intro q hq hf
    rcases List.mem_append.1 hq with hq | hq
    · exact o.od q hq hf
    · obtain rfl := List.mem_singleton.1 hq; exact ho hf
  · intro j i hj
    obtain ⟨q, hq, hb⟩ := o.ba j i hj
    refine ⟨q, ?_, hb⟩
    show (x.pk ++ [p])[i]? = some q
    rw [List.getElem?_append_left (List.getElem?_eq_some_iff.1 hq).1]; exact hq
  · intro k
    show _ = ((x.pk ++ [p]).filter (stf k)).map untold
    rw [List.filter_append, List.filter_cons_of_neg (by unfold stf; simp; omega), List.filter_nil, List.append_nil]
    exact o.fb k
theorem od_send {x : Ln} {B : List Pk} (o : Od x B) (k size : Int) : Od (x.send k size).2 B := by
  have hs := stb_send o.stb k size
  revert hs
  refine send_cases (P := fun y => Stb y → Od y B) (fun _ => o) fun st ha hi hz hs => ?_
  obtain ⟨k0, hk⟩ := at_some ha
  exact o.push (new_flow o.inv ha hi hz) (by show (-1 : Int) < 0; decide) rfl (fun _ => by show isOf x.fl k = 0; unfold isOf; rw [hk]; exact hi) (fun g => by have : k < 0 := g; omega) hs
theorem od_other {x : Ln} {B : List Pk} (o : Od x B) (size : Int) : Od (x.other size).2 B := by
  have hs := stb_other o.stb size
  revert hs
  refine other_cases (P := fun y => Stb y → Od y B) (fun _ => o) fun hz hs => ?_
  exact o.push (new_none hz) (by show (-1 : Int) < 0; decide) rfl (fun g => absurd (show (0 : Int) ≤ -1 from g) (by decide)) (fun _ => ⟨rfl, o.inv.n0, Int.le_refl _⟩) hs
/-- Only flows change. -/
theorem Od.flows {x : Ln} {B : List Pk} (o : Od x B) {fl : List Stt} (h : Lnv { x with fl := fl }) (hi : ∀ p ∈ x.pk, 1 ≤ isOf x.fl p.flow → 0 ≤ p.flow → 1 ≤ isOf fl p.flow) : Od { x with fl := fl } B :=
  ⟨h, o.stb, o.sq, o.pf, o.dr, fun p hp hd => by have := o.dz p hp hd; exact ⟨this.1, this.2.1, hi p hp this.2.2 this.1⟩, o.od, o.bl, o.ba, o.bo, o.nd, o.fb⟩
theorem od_away {x : Ln} {B : List Pk} (o : Od x B) : Od x.away B := by
  have h := o.inv.away
  revert h
  refine away_cases (P := fun y => Lnv y → Od y B) (fun _ => o) fun _ _ h => o.flows h fun p _ hp _ => ?_
  rw [is_gone]; split <;> omega
theorem od_setup {x : Ln} {B : List Pk} (o : Od x B) (f : Fl) : Od (x.setup f).2 B := by
  have h := o.inv.setup f
  revert h
  refine setup_cases (P := fun y => Lnv y → Od y B) (fun _ => o) fun _ _ h => o.flows h fun p hp hi h0 => ?_
  have := o.inv.own p hp h0
  unfold isOf at hi ⊢
  rw [List.getElem?_append_left this]; exact hi
/-- All of the flow that are ahead of what begins have begun. -/
theorem ahead {x : Ln} {B : List Pk} (o : Od x B) {b : Bst} (hg : x.goes = some b) {l1 l2 : List Pk} {p : Pk} (e : x.pk = l1 ++ p :: l2) (hi : b.i = l1.length) (he : El x.now p) : ∀ q ∈ l1, q.flow = p.flow → 0 ≤ q.start := by
  intro q hq hf
  by_cases hs : 0 ≤ q.start
  · exact hs
  · exfalso
    have hnd : q.dropped = false := by
      cases hd : q.dropped with
      | false => rfl
      | true => have := o.dr l1 p l2 e q hq hf hd; rw [he.2.1] at this; cases this
    have hqm : q ∈ x.pk := by rw [e]; simp [hq]
    unfold Ln.goes at hg
    split at hg
    · rename_i b' hb
      obtain rfl := Option.some.inj hg
      obtain ⟨hel, ht⟩ := first_tie hb e hi
      have hfl := ((elB_iff _ _ _).1 hel).2.2 rfl
      have hr := ready_order o.inv e hfl he.2.2.1 q hq hf
      have := ht q hq ((elB_iff _ _ _).2 ⟨⟨by omega, hnd, hr.1, by have := he.2.2.2; omega⟩, by simp [hf, hfl]⟩)
      simp only [key, if_true] at this
      rw [hf] at this
      omega
    · obtain ⟨hel, ht⟩ := first_tie hg e hi
      have hfl : p.flow < 0 := by
        have := ((elB_iff _ _ _).1 hel).2
        by_cases g : 0 ≤ p.flow
        · have := this.1 g; cases this
        · omega
      have hr := (o.od q hqm (by omega)).2
      have := ht q hq ((elB_iff _ _ _).2 ⟨⟨by omega, hnd, hr.1, hr.2⟩, by
        constructor
        · intro g; omega
        · intro g; cases g⟩)
      simp [key] at this
      omega
theorem filter_mem_nil {α : Type} {f : α → Bool} {l : List α} (h : ∀ x ∈ l, f x = false) : l.filter f = [] := by
  rw [List.filter_eq_nil_iff]; intro x hx; rw [h x hx]; decide
end Go.Proofs.YtcnmajndackohaaGreatDoor
/-
  Plain: the order holds behind each call.
-/
namespace Go.Proofs.YtcnmajndackohaaGreatDoor

theorem split3 {α : Type} {l1 l2 m1 m2 : List α} {a q : α} (h : l1 ++ a :: l2 = m1 ++ q :: m2) :
    (∃ r, l1 = m1 ++ q :: r ∧ m2 = r ++ a :: l2) ∨ (m1 = l1 ∧ q = a ∧ m2 = l2) ∨ ∃ r, m1 = l1 ++ a :: r ∧ l2 = r ++ q :: m2 := by
  rcases List.append_eq_append_iff.1 h with ⟨r, e1, e2⟩ | ⟨r, e1, e2⟩
  · cases r with
    | nil =>
      simp at e1 e2
      exact .inr (.inl ⟨e1, e2.1.symm, e2.2.symm⟩)
    | cons b r =>
      simp only [List.cons_append, List.cons.injEq] at e2
      obtain ⟨rfl, e2⟩ := e2
      exact .inr (.inr ⟨r, e1, e2⟩)
  · cases r with
    | nil =>
      simp at e1 e2
      exact .inr (.inl ⟨e1.symm, e2.1, e2.2⟩)
    | cons b r =>
      simp only [List.cons_append, List.cons.injEq] at e2
      obtain ⟨rfl, e2⟩ := e2
      exact .inl ⟨r, e1, e2⟩
theorem adv_cases2 {x : Ln} (h : Lnv x) {P : Ln → Prop} (h1 : P { x with now := x.now + 1 })
    (h3 : ∀ l1 p l2 b, x.goes = some b → b.i = l1.length → (∀ q ∈ x.pk, done x.now q) → x.pk = l1 ++ p :: l2 → El x.now p → P ⟨x.now + 1, x.fl, l1 ++ beg x.now p :: l2, x.began ++ [l1.length]⟩) : P x.adv := by
  cases e : x.busy with
  | true =>
    have : x.adv = { x with now := x.now + 1 } := by unfold Ln.adv Ln.begins; rw [if_pos e]
    rw [this]; exact h1
  | false =>
    have hall := h.idle e
    have ne : ¬ x.busy = true := by rw [e]; decide
    cases g : x.goes with
    | none =>
      have : x.adv = { x with now := x.now + 1 } := by unfold Ln.adv Ln.begins; rw [if_neg ne, g]
      rw [this]; exact h1
    | some b =>
      obtain ⟨l1, p, l2, ep, hi, he, _⟩ := goes_some g
      have : x.adv = ⟨x.now + 1, x.fl, l1 ++ beg x.now p :: l2, x.began ++ [l1.length]⟩ := by
        unfold Ln.adv Ln.begins; rw [if_neg ne, g]
        simp only [hi]
        rw [ep, modify_at]
      rw [this]
      exact h3 l1 p l2 b g hi hall ep he
theorem get_beg {l1 l2 : List Pk} {p q : Pk} {i : Nat} (h : (l1 ++ p :: l2)[i]? = some q) (hi : i ≠ l1.length) (z : Pk) : (l1 ++ z :: l2)[i]? = some q := by
  rcases Nat.lt_or_ge i l1.length with g | g
  · rw [List.getElem?_append_left g] at h ⊢; exact h
  · rw [List.getElem?_append_right g] at h ⊢
    obtain ⟨j, hj⟩ : ∃ j, i - l1.length = j + 1 := ⟨i - l1.length - 1, by omega⟩
    rw [hj] at h ⊢; exact h
/-- What began is of the line. -/
theorem Od.mem {x : Ln} {B : List Pk} (o : Od x B) {b : Pk} (hb : b ∈ B) : ∃ p ∈ x.pk, b = untold p ∧ 0 ≤ p.start := by
  obtain ⟨j, hj⟩ := List.mem_iff_getElem?.1 hb
  have hl : j < x.began.length := by rw [← o.bl]; exact (List.getElem?_eq_some_iff.1 hj).1
  obtain ⟨p, hp, hB⟩ := o.ba j _ (List.getElem?_eq_getElem hl)
  rw [hj] at hB
  obtain ⟨p', hp', h0⟩ := o.inv.bg _ (List.getElem_mem hl)
  obtain rfl : p = p' := Option.some.inj (hp.symm.trans hp')
  exact ⟨p, List.mem_of_getElem? hp, Option.some.inj hB, h0⟩
theorem od_tick {x : Ln} {B : List Pk} (o0 : Od x B) : ∃ C, Od x.tick (B ++ C) := by
  have hL := o0.inv.tick
  have hS := stb_tick o0.inv o0.stb
  have o := od_away o0
  rw [tick_adv] at hL hS ⊢
  generalize x.away = x at *
  clear o0
  revert hL hS
  refine adv_cases2 o.inv (P := fun y => Lnv y → Stb y → ∃ C, Od y (B ++ C)) ?_ ?_
  · intro hL hS
    refine ⟨[], ?_⟩
    rw [List.append_nil]
    exact ⟨hL, hS, o.sq, o.pf, o.dr, o.dz, fun p hp hf => by have := o.od p hp hf; exact ⟨this.1, this.2.1, by show p.ready ≤ x.now + 1; omega⟩, o.bl, o.ba, o.bo, o.nd, o.fb⟩
  · intro l1 p l2 b hg hi hall e he hL hS
    have hn := o.inv.n0
    have ha := ahead o hg e hi he
    have hni : l1.length ∉ x.began := fun hc => by
      obtain ⟨q, hq, h0⟩ := o.inv.bg _ hc
      rw [e, get_at] at hq
      obtain rfl := Option.some.inj hq
      have := he.1; omega
    have hbeh : ∀ q ∈ l2, q.flow = p.flow → q.start < 0 := fun q hq hf => by
      by_cases g : q.start < 0
      · exact g
      · exfalso
        obtain ⟨r1, r2, rfl⟩ := List.append_of_mem hq
        have := o.pf (l1 ++ p :: r1) q r2 (by rw [e]; simp) (by omega) p (by simp) hf.symm
        have := he.1; omega
    refine ⟨[untold (beg x.now p)], hL, hS, ?_, ?_, ?_, ?_, ?_, ?_, ?_, ?_, ?_, ?_⟩
    · intro m1 q m2 es
      rcases split3 es with ⟨r, rfl, rfl⟩ | ⟨rfl, rfl, rfl⟩ | ⟨r, rfl, rfl⟩
      · exact o.sq m1 q (r ++ p :: l2) (by rw [e]; simp)
      · exact o.sq m1 p m2 e
      · have := o.sq (l1 ++ p :: r) q m2 (by rw [e]; simp)
        rw [this, List.countP_append, List.countP_append, List.countP_cons, List.countP_cons]
        rfl
    · intro m1 q m2 es h0 z hz hf
      rcases split3 es with ⟨r, rfl, rfl⟩ | ⟨rfl, rfl, rfl⟩ | ⟨r, rfl, rfl⟩
      · exact o.pf m1 q (r ++ p :: l2) (by rw [e]; simp) h0 z hz hf
      · exact ha z hz hf
      · have k := o.pf (l1 ++ p :: r) q m2 (by rw [e]; simp) h0
        rcases mem_beg hz with rfl | hz
        · exact hn
        · exact k z hz hf
    · intro m1 q m2 es z hz hf hd
      rcases split3 es with ⟨r, rfl, rfl⟩ | ⟨rfl, rfl, rfl⟩ | ⟨r, rfl, rfl⟩
      · exact o.dr m1 q (r ++ p :: l2) (by rw [e]; simp) z hz hf hd
      · exact o.dr m1 p m2 e z hz hf hd
      · rcases mem_beg hz with rfl | hz
        · have : p.dropped = true := hd
          rw [he.2.1] at this; cases this
        · exact o.dr (l1 ++ p :: r) q m2 (by rw [e]; simp) z hz hf hd
    · intro q hq hd
      rcases mem_beg hq with rfl | hq
      · have : p.dropped = true := hd
        rw [he.2.1] at this; cases this
      · exact o.dz q (by rw [e]; exact hq) hd
    · intro q hq hf
      rcases mem_beg hq with rfl | hq
      · have := o.od p (by rw [e]; simp) hf
        exact ⟨this.1, this.2.1, by show p.ready ≤ x.now + 1; omega⟩
      · have := o.od q (by rw [e]; exact hq) hf
        exact ⟨this.1, this.2.1, by show q.ready ≤ x.now + 1; omega⟩
    · rw [List.length_append, List.length_append, o.bl]; rfl
    · intro j i hj
      rcases get_snoc hj with g | ⟨rfl, rfl⟩
      · obtain ⟨q, hq, hB⟩ := o.ba j i g
        have hne : i ≠ l1.length := fun c => hni (by rw [← c]; exact List.mem_of_getElem? g)
        rw [e] at hq
        exact ⟨q, get_beg hq hne _, by rw [List.getElem?_append_left (List.getElem?_eq_some_iff.1 hB).1]; exact hB⟩
      · exact ⟨beg x.now p, get_at, by rw [← o.bl, List.getElem?_append_right (Nat.le_refl _), Nat.sub_self]; rfl⟩
    · intro b1 b c b2 es
      have es' : B ++ [untold (beg x.now p)] = (b1 ++ [b]) ++ c :: b2 := by rw [es]; simp
      rcases snoc_split es' with ⟨_, h2, rfl⟩ | ⟨m, _, h2⟩
      · have hbB : b ∈ B := by rw [← h2]; simp
        obtain ⟨q, hq, rfl, h0⟩ := o.mem hbB
        have := hall q hq
        unfold done at this
        show q.start + q.size ≤ x.now
        omega
      · exact o.bo b1 b c m (by rw [h2]; simp)
    · rw [List.nodup_append]
      refine ⟨o.nd, by simp, ?_⟩
      intro a ha' c hc
      obtain rfl := List.mem_singleton.1 hc
      rintro rfl
      exact hni ha'
    · intro k
      rw [List.filter_append, o.fb k, e]
      simp only [List.filter_append, List.filter_cons, List.filter_nil]
      have n1 : stf k p = false := by unfold stf; have := he.1; simp; intro _; omega
      have hf : (untold (beg x.now p)).flow = p.flow := rfl
      rw [n1, hf]
      by_cases hk : p.flow = k
      · have n2 : stf k (beg x.now p) = true := by
          unfold stf
          simp only [Bool.and_eq_true, decide_eq_true_eq]
          exact ⟨hk, hn⟩
        have n3 : l2.filter (stf k) = [] := filter_mem_nil fun q hq => by
          unfold stf
          by_cases g : q.flow = k
          · have := hbeh q hq (by rw [g, hk]); simp; intro _; omega
          · simp [g]
        rw [n2, n3]
        simp [hk]
      · have n2 : stf k (beg x.now p) = false := by
          unfold stf
          have : ¬ (beg x.now p).flow = k := hk
          simp [this]
        rw [n2]
        simp [hk]

theorem untold_split {pk pk' : List Pk} (e : pk'.map untold = pk.map untold) {m1 m2 : List Pk} {q : Pk} (h : pk' = m1 ++ q :: m2) : ∃ n1 z n2, pk = n1 ++ z :: n2 ∧ n1.map untold = m1.map untold ∧ untold z = untold q := by
  rw [h, List.map_append, List.map_cons] at e
  obtain ⟨n1, r, e1, e2, e3⟩ := List.map_eq_append_iff.1 e.symm
  obtain ⟨z, n2, e4, e5, _⟩ := List.map_eq_cons_iff.1 e3
  exact ⟨n1, z, n2, by rw [e1, e4], e2, e5⟩
theorem countP_untold {n m : List Pk} (e : n.map untold = m.map untold) (k : Int) : (n.countP fun q => decide (q.flow = k)) = m.countP fun q => decide (q.flow = k) := by
  have : (n.map untold).countP (fun q => decide (q.flow = k)) = (m.map untold).countP fun q => decide (q.flow = k) := by rw [e]
  rw [List.countP_map, List.countP_map] at this
  exact this
theorem filter_untold {n m : List Pk} (e : n.map untold = m.map untold) (k : Int) : (n.filter (stf k)).map untold = (m.filter (stf k)).map untold := by
  have : (n.map untold).filter (stf k) = (m.map untold).filter (stf k) := by rw [e]
  rw [List.filter_map, List.filter_map] at this
  exact this
theorem od_gone {x : Ln} {B : List Pk} (o : Od x B) : Od x.gone.2 B := by
  have e := gone_untold x.now x.began x.pk
  have hL := o.inv.gone
  have hS := stb_gone o.stb
  refine ⟨hL, hS, ?_, ?_, ?_, ?_, ?_, o.bl, ?_, o.bo, o.nd, ?_⟩
  · intro m1 q m2 h
    obtain ⟨n1, z, n2, e1, e2, e3⟩ := untold_split e h
    have := o.sq n1 z n2 e1
    rw [ut_seq e3, ut_flow e3, countP_untold e2] at this
    exact this
  · intro m1 q m2 h h0 y hy hf
    obtain ⟨n1, z, n2, e1, e2, e3⟩ := untold_split e h
    obtain ⟨w, hw, ew⟩ := mem_untold e2.symm hy
    have := o.pf n1 z n2 e1 (by rw [ut_start e3]; exact h0) w hw (by rw [ut_flow ew, ut_flow e3]; exact hf)
    rw [ut_start ew] at this; exact this
  · intro m1 q m2 h y hy hf hd
    obtain ⟨n1, z, n2, e1, e2, e3⟩ := untold_split e h
    obtain ⟨w, hw, ew⟩ := mem_untold e2.symm hy
    have := o.dr n1 z n2 e1 w hw (by rw [ut_flow ew, ut_flow e3]; exact hf) (by rw [ut_dropped ew]; exact hd)
    rw [ut_dropped e3] at this; exact this
  · intro p hp hd
    obtain ⟨w, hw, ew⟩ := mem_untold e hp
    have := o.dz w hw (by rw [ut_dropped ew]; exact hd)
    rw [ut_flow ew, ut_start ew] at this; exact this
  · intro p hp hf
    obtain ⟨w, hw, ew⟩ := mem_untold e hp
    have := o.od w hw (by rw [ut_flow ew]; exact hf)
    rw [ut_flow ew, ut_ready ew] at this; exact this
  · intro j i hj
    obtain ⟨p, hp, hB⟩ := o.ba j i hj
    obtain ⟨q, hq, eq⟩ := get_untold e.symm hp
    exact ⟨q, hq, by rw [eq]; exact hB⟩
  · intro k
    rw [o.fb k]
    exact (filter_untold e k).symm
theorem drp_started {now k : Int} {p : Pk} (h : 0 ≤ p.start) : drp now k p = p := by
  unfold drp; rw [if_neg (by omega)]
theorem od_torn {x : Ln} {B : List Pk} (o : Od x B) {k : Int} {st : Stt} (ha : x.at? k = some st) (hi : st.is = 0) : Od { x with fl := x.fl.set k.toNat ⟨st.f, 1⟩, pk := x.pk.map (drp x.now k) } B := by
  obtain ⟨k0, hk⟩ := at_some ha
  have hl : k.toNat < x.fl.length := (List.getElem?_eq_some_iff.1 hk).1
  have s := same_drp (now := x.now) k
  have sp : ∀ m1 q m2, x.pk.map (drp x.now k) = m1 ++ q :: m2 → ∃ n1 z n2, x.pk = n1 ++ z :: n2 ∧ m1 = n1.map (drp x.now k) ∧ q = drp x.now k z := fun m1 q m2 h => by
    obtain ⟨n1, r, e1, e2, e3⟩ := List.map_eq_append_iff.1 h
    obtain ⟨z, n2, e4, e5, _⟩ := List.map_eq_cons_iff.1 e3
    exact ⟨n1, z, n2, by rw [e1, e4], e2.symm, e5.symm⟩
  refine ⟨o.inv.torn ha hi, stb_torn o.stb _ k, ?_, ?_, ?_, ?_, ?_, o.bl, ?_, o.bo, o.nd, ?_⟩
  · intro m1 q m2 h
    obtain ⟨n1, z, n2, e1, rfl, rfl⟩ := sp m1 q m2 h
    have := o.sq n1 z n2 e1
    have hq : (drp x.now k z).seq = z.seq := by unfold drp; split <;> rfl
    rw [hq, this, List.countP_map, s.flow]
    congr 1
    refine List.countP_congr fun y _ => ?_
    simp only [Function.comp, s.flow]
  · intro m1 q m2 h h0 y hy hf
    obtain ⟨n1, z, n2, e1, rfl, rfl⟩ := sp m1 q m2 h
    obtain ⟨w, hw, rfl⟩ := List.mem_map.1 hy
    rw [s.st] at h0 ⊢
    rw [s.flow, s.flow] at hf
    exact o.pf n1 z n2 e1 h0 w hw hf
  · intro m1 q m2 h y hy hf hd
    obtain ⟨n1, z, n2, e1, rfl, rfl⟩ := sp m1 q m2 h
    obtain ⟨w, hw, rfl⟩ := List.mem_map.1 hy
    rw [s.flow, s.flow] at hf
    by_cases hwd : w.dropped = true
    · have := o.dr n1 z n2 e1 w hw hf hwd
      cases hz : (drp x.now k z).dropped with
      | true => rfl
      | false => have := s.dr z hz; rw [o.dr n1 z n2 e1 w hw hf hwd] at this; cases this
    · have hwd' : w.dropped = false := by simpa using hwd
      have hc : w.flow = k ∧ w.start < 0 ∧ (w.ready < 0 ∨ x.now < w.ready) := by
        unfold drp at hd
        split at hd
        · assumption
        · rw [hwd'] at hd; cases hd
      have hzs : z.start < 0 := by
        by_cases g : z.start < 0
        · exact g
        · have := o.pf n1 z n2 e1 (by omega) w hw hf; omega
      have hzr : z.ready < 0 ∨ x.now < z.ready := by
        by_cases g : z.ready < 0
        · exact .inl g
        · have := ready_order o.inv e1 (by omega) (by omega) w hw hf
          omega
      unfold drp
      rw [if_pos ⟨by omega, hzs, hzr⟩]
  · intro p hp hd
    obtain ⟨w, hw, rfl⟩ := List.mem_map.1 hp
    rw [s.flow, s.st]
    by_cases hwd : w.dropped = true
    · have := o.dz w hw hwd
      refine ⟨this.1, this.2.1, ?_⟩
      rw [is_set _ _ _ _ _ hl this.1]
      split
      · decide
      · exact this.2.2
    · have hwd' : w.dropped = false := by simpa using hwd
      have hc : w.flow = k ∧ w.start < 0 ∧ (w.ready < 0 ∨ x.now < w.ready) := by
        unfold drp at hd
        split at hd
        · assumption
        · rw [hwd'] at hd; cases hd
      refine ⟨by omega, hc.2.1, ?_⟩
      rw [is_set _ _ _ _ _ hl (by omega), if_pos (by omega)]
      decide
  · intro p hp hf
    obtain ⟨w, hw, rfl⟩ := List.mem_map.1 hp
    rw [s.flow] at hf ⊢
    rw [s.ready]
    exact o.od w hw hf
  · intro j i hj
    obtain ⟨p, hp, hB⟩ := o.ba j i hj
    obtain ⟨p', hp', h0⟩ := o.inv.bg i (List.mem_of_getElem? hj)
    obtain rfl : p = p' := Option.some.inj (hp.symm.trans hp')
    refine ⟨p, ?_, hB⟩
    show (x.pk.map (drp x.now k))[i]? = _
    rw [List.getElem?_map, hp]
    show some (drp x.now k p) = some p
    rw [drp_started h0]
  · intro j
    show _ = ((x.pk.map (drp x.now k)).filter (stf j)).map untold
    rw [o.fb j, List.filter_map]
    have h1 : (stf j ∘ drp x.now k) = stf j := funext fun p => by
      unfold stf
      simp only [Function.comp, s.flow, s.st]
    rw [h1, List.map_map]
    refine List.map_congr_left fun p hp => ?_
    have := (List.mem_filter.1 hp).2
    unfold stf at this
    simp only [Bool.and_eq_true, decide_eq_true_eq] at this
    show untold p = untold (drp x.now k p)
    rw [drp_started this.2]
theorem od_teardown {x : Ln} {B : List Pk} (o : Od x B) (k : Int) : Od (x.teardown k).2 B := teardown_cases (P := fun y => Od y B) o fun _ ha hi => od_away (od_torn o ha hi)
end Go.Proofs.YtcnmajndackohaaGreatDoor
/-
  Plain: what the program's line is, held against the document's.
-/
namespace Go.Proofs.YtcnmajndackohaaGreatDoor

/-- Does it wait? -/
def wt (p : Pk) : Bool := decide (p.start < 0) && !p.dropped
def hdB (k r : Int) (p : Pk) : Bool := decide (p.flow = k) && wt p && decide (r ≤ p.seq)
def quB (rel : Int → Int) (p : Pk) : Bool := decide (0 ≤ p.flow) && wt p && decide (p.seq < rel p.flow)
def othB (p : Pk) : Bool := decide (p.flow = -1) && wt p
/-- What began and has not been told. -/
def untoldL (pk : List Pk) (l : List Nat) : List Pk := (l.filterMap fun i => pk[i]?).filter fun p => !p.told
theorem wt_iff (p : Pk) : wt p = true ↔ p.start < 0 ∧ p.dropped = false := by unfold wt; simp
theorem hdB_iff (k r : Int) (p : Pk) : hdB k r p = true ↔ p.flow = k ∧ wt p = true ∧ r ≤ p.seq := by unfold hdB; simp [and_assoc]
theorem quB_iff (rel : Int → Int) (p : Pk) : quB rel p = true ↔ 0 ≤ p.flow ∧ wt p = true ∧ p.seq < rel p.flow := by unfold quB; simp [and_assoc]
theorem othB_iff (p : Pk) : othB p = true ↔ p.flow = -1 ∧ wt p = true := by unfold othB; simp

/-- The program's line s is the document's line x; of each flow k the first rel k packets have gone into the queue. -/
structure Sim (x : Ln) (s : PS) (rel : Int → Int) : Prop where
  od : ∃ B, Od x B
  rr : ∀ p ∈ x.pk, quB rel p = true → 0 ≤ p.ready ∧ p.ready ≤ x.now
  lg : ∀ p ∈ x.pk, 0 ≤ p.flow → wt p = true → isOf x.fl p.flow = 1 → p.seq < rel p.flow
  aw : ∀ p ∈ x.pk, 0 ≤ p.flow → wt p = true → isOf x.fl p.flow < 2
  tl : ∀ p ∈ x.pk, p.told = true → 0 ≤ p.start ∧ p.start + p.size ≤ x.now
  rb : ∀ k : Int, rel k ≤ x.seqOf k
  is : ∀ st ∈ x.fl, st.is = 0 ∨ st.is = 1 ∨ st.is = 2
  now : s.now = x.now
  num : s.num = x.fl.length
  dom : ∀ k, (∃ f, s.fs k = some f) ↔ ∃ st, x.fl[k]? = some st ∧ st.is < 2
  val : ∀ k f, s.fs k = some f → ∃ st, x.fl[k]? = some st ∧ f.f = st.f ∧ f.torn = decide (st.is = 1) ∧ f.br = x.seqOf k ∧ f.wa = x.waiting k ∧ f.L = x.pk.filter (hdB k (rel k)) ∧ Gok st.f k x.pk f.g
  H : s.H.Perm ((x.pk.filter (quB rel)).map fun p => enP p (dueOf x.fl p.flow))
  O : s.O = x.pk.filter othB
  br : s.br = x.seqOf (-1)
  G : s.G = untoldL x.pk x.began
section
variable {x : Ln} {s : PS} {rel : Int → Int}
theorem Sim.inv (h : Sim x s rel) : Lnv x := h.od.choose_spec.inv
theorem Sim.sq (h : Sim x s rel) : ∀ l1 p l2, x.pk = l1 ++ p :: l2 → p.seq = ((l1.countP fun q => decide (q.flow = p.flow) : Nat) : Int) := h.od.choose_spec.sq
theorem Sim.after (h : Sim x s rel) {a b : List Pk} {p q : Pk} (e : x.pk = a ++ p :: b) (hq : q ∈ b) (hf : q.flow = p.flow) : p.seq < q.seq := by
  obtain ⟨b1, b2, rfl⟩ := List.append_of_mem hq
  have h1 := h.sq a p _ e
  have h2 := h.sq (a ++ p :: b1) q b2 (by rw [e]; simp)
  rw [h1, h2, List.countP_append, List.countP_cons_of_pos (by simp [hf]), hf]
  omega
theorem Sim.ahead (h : Sim x s rel) {a b : List Pk} {p q : Pk} (e : x.pk = a ++ p :: b) (hq : q ∈ a) (hf : q.flow = p.flow) : q.seq < p.seq := by
  obtain ⟨a1, a2, rfl⟩ := List.append_of_mem hq
  exact h.after (a := a1) (b := a2 ++ p :: b) (by rw [e]; simp) (by simp) hf.symm
theorem due_at {fl : List Stt} {k : Nat} {st : Stt} (h : fl[k]? = some st) : dueOf fl (k : Int) = st.f.d := by unfold dueOf; rw [Int.toNat_natCast, h]
theorem is_at {fl : List Stt} {k : Nat} {st : Stt} (h : fl[k]? = some st) : isOf fl (k : Int) = st.is := by unfold isOf; rw [Int.toNat_natCast, h]
theorem is_none' {fl : List Stt} {k : Nat} (h : fl[k]? = none) : isOf fl (k : Int) = 2 := by unfold isOf; rw [Int.toNat_natCast, h]
theorem toTick_le {r now : Int} (h : toTick r ≤ now) (hn : now ≤ 1000000000000) : 0 ≤ r ∧ r ≤ now ∧ toTick r = r := by
  unfold toTick never at *
  split at h
  · omega
  · rename_i g; rw [if_neg g]; omega
theorem toTick_of {r : Int} (h : 0 ≤ r) : toTick r = r := by unfold toTick; rw [if_neg (by omega)]
/-- One packet goes into the queue: nothing changes that the document sees. -/
theorem Sim.rel1 (h : Sim x s rel) (hn : x.now ≤ 1000000000000) {s' : PS} (hr : Rel1 s s') : ∃ rel', Sim x s' rel' := by
  obtain ⟨k, f, p, tl, v, vh, o, H, hf, hL, hrd, hHp, hP, rfl⟩ := hr
  obtain ⟨st, hst, e1, e2, e3, e4, e5, e6⟩ := h.val k f hf
  rw [h.now] at hrd
  obtain ⟨r0, r1, r2⟩ := toTick_le hrd hn
  rw [hL] at e5
  obtain ⟨a, b, ep, ha, hp, etl⟩ := List.filter_eq_cons_iff.1 e5.symm
  obtain ⟨pf, pw, ps⟩ := (hdB_iff _ _ _).1 hp
  have hp' : p ∈ x.pk := by rw [ep]; simp
  have hk0 : (0 : Int) ≤ (k : Int) := by omega
  -- the new numbers
  have hrel : ∀ j, (if j = (k : Int) then p.seq + 1 else rel j) = (if j = (k : Int) then p.seq + 1 else rel j) := fun _ => rfl
  have hq : ∀ q ∈ x.pk, q ≠ p ∨ True → quB (fun j => if j = (k : Int) then p.seq + 1 else rel j) q = true → quB rel q = true ∨ (q.flow = k ∧ q.seq ≤ p.seq ∧ wt q = true) := by
    intro q _ _ hq
    obtain ⟨q0, q1, q2⟩ := (quB_iff _ _).1 hq
    by_cases e : q.flow = (k : Int)
    · rw [if_pos e] at q2; exact .inr ⟨e, by omega, q1⟩
    · rw [if_neg e] at q2; exact .inl ((quB_iff _ _).2 ⟨q0, q1, q2⟩)
  have hA : a.filter (quB fun j => if j = (k : Int) then p.seq + 1 else rel j) = a.filter (quB rel) := by
    refine List.filter_congr fun q hq => ?_
    rw [Bool.eq_iff_iff, quB_iff, quB_iff]
    by_cases e : q.flow = (k : Int)
    · rw [if_pos e, e]
      have hno := ha q hq
      have hlt := h.ahead ep hq (e.trans pf.symm)
      constructor
      · rintro ⟨_, w, _⟩
        refine ⟨hk0, w, ?_⟩
        rcases Int.lt_or_le q.seq (rel k) with g | g
        · exact g
        · exact absurd ((hdB_iff _ _ _).2 ⟨e, w, g⟩) hno
      · rintro ⟨_, w, _⟩; exact ⟨hk0, w, by omega⟩
    · rw [if_neg e]
  have hB : b.filter (quB fun j => if j = (k : Int) then p.seq + 1 else rel j) = b.filter (quB rel) := by
    refine List.filter_congr fun q hq => ?_
    rw [Bool.eq_iff_iff, quB_iff, quB_iff]
    by_cases e : q.flow = (k : Int)
    · rw [if_pos e, e]
      have hlt := h.after ep hq (e.trans pf.symm)
      constructor
      · rintro ⟨_, _, g⟩; omega
      · rintro ⟨_, _, g⟩; omega
    · rw [if_neg e]
  have hpq : quB (fun j => if j = (k : Int) then p.seq + 1 else rel j) p = true := (quB_iff _ _).2 ⟨by omega, pw, by rw [if_pos pf]; omega⟩
  have hpn : quB rel p = false := by
    rw [← Bool.not_eq_true]
    intro g
    have := ((quB_iff _ _).1 g).2.2
    rw [pf] at this
    omega
  refine ⟨fun j => if j = (k : Int) then p.seq + 1 else rel j, ?_⟩
  refine ⟨h.od, ?_, ?_, h.aw, h.tl, ?_, h.is, h.now, h.num, ?_, ?_, ?_, h.O, h.br, h.G⟩
  · intro q hq hx
    rw [ep] at hq
    rcases List.mem_append.1 hq with g | g
    · have : q ∈ a.filter (quB rel) := by rw [← hA]; exact List.mem_filter.2 ⟨g, hx⟩
      exact h.rr q (by rw [ep]; exact hq) (List.mem_filter.1 this).2
    · rcases List.mem_cons.1 g with rfl | g
      · exact ⟨r0, r1⟩
      · have : q ∈ b.filter (quB rel) := by rw [← hB]; exact List.mem_filter.2 ⟨g, hx⟩
        exact h.rr q (by rw [ep]; exact hq) (List.mem_filter.1 this).2
  · intro q hq q0 qw qi
    have := h.lg q hq q0 qw qi
    by_cases e : q.flow = (k : Int)
    · show q.seq < if q.flow = (k : Int) then p.seq + 1 else rel q.flow
      rw [if_pos e]; rw [e] at this; omega
    · show q.seq < if q.flow = (k : Int) then p.seq + 1 else rel q.flow
      rw [if_neg e]; exact this
  · intro j
    show (if j = (k : Int) then p.seq + 1 else rel j) ≤ _
    by_cases e : j = (k : Int)
    · rw [if_pos e, h.sq a p b ep, e]
      unfold Ln.seqOf
      rw [ep, List.countP_append, List.countP_cons_of_pos (by simp [pf]), pf]
      omega
    · rw [if_neg e]; exact h.rb j
  · intro j
    show (∃ g, upd s.fs k _ j = some g) ↔ _
    by_cases e : j = k
    · subst e
      rw [upd_same]
      constructor
      · intro _; exact (h.dom j).1 ⟨f, hf⟩
      · intro _; exact ⟨_, rfl⟩
    · rw [upd_far _ _ e]; exact h.dom j
  · intro j g hg
    have hg' : upd s.fs k _ j = some g := hg
    by_cases e : j = k
    · subst e
      rw [upd_same] at hg'
      obtain rfl := Option.some.inj hg'
      refine ⟨st, hst, e1, e2, e3, e4, ?_, e6⟩
      show tl = x.pk.filter (hdB j (if (j : Int) = (j : Int) then p.seq + 1 else rel j))
      rw [if_pos rfl, ep, List.filter_append]
      have f1 : a.filter (hdB j (p.seq + 1)) = [] := by
        rw [List.filter_eq_nil_iff]
        intro q hq g
        obtain ⟨g1, _, g3⟩ := (hdB_iff _ _ _).1 g
        have := h.ahead ep hq (g1.trans pf.symm)
        omega
      have f2 : (p :: b).filter (hdB j (p.seq + 1)) = b.filter (hdB j (rel j)) := by
        rw [List.filter_cons_of_neg (by rw [hdB_iff]; omega)]
        refine List.filter_congr fun q hq => ?_
        rw [Bool.eq_iff_iff, hdB_iff, hdB_iff]
        constructor
        · rintro ⟨c1, c2, c3⟩; exact ⟨c1, c2, by omega⟩
        · rintro ⟨c1, c2, _⟩
          have := h.after ep hq (c1.trans pf.symm)
          exact ⟨c1, c2, by omega⟩
      rw [f1, f2, List.nil_append, etl]
    · rw [upd_far _ _ e] at hg'
      obtain ⟨st', h1, h2, h3, h4, h5, h6, h7⟩ := h.val j g hg'
      refine ⟨st', h1, h2, h3, h4, h5, ?_, h7⟩
      show g.L = x.pk.filter (hdB j (if (j : Int) = (k : Int) then p.seq + 1 else rel j))
      rw [if_neg (by omega)]; exact h6
  · refine hP.trans ?_
    rw [e1]
    have ed : dueOf x.fl p.flow = st.f.d := by rw [pf]; exact due_at hst
    rw [ep, List.filter_append, List.filter_cons_of_pos hpq, hA, hB]
    have hH := h.H
    rw [ep, List.filter_append, List.filter_cons_of_neg (by rw [hpn]; decide)] at hH
    rw [List.map_append, List.map_cons, ed]
    rw [List.map_append] at hH
    exact (hH.cons _).trans List.perm_middle.symm
end
end Go.Proofs.YtcnmajndackohaaGreatDoor
