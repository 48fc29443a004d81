import Derived.Test.YtcnmajndackohaaGreatDoorMg25
import Derived.Test.YtcnmajndackohaaGreatDoorMg33
import Derived.Test.YtcnmajndackohaaGreatDoorMg14
import Derived.Test.YtcnmajndackohaaGreatDoorMg16
/-
  Plain: what began, of each flow: its numbers, and how much of it; all of none goes.
-/
namespace Go.Proofs.YtcnmajndackohaaGreatDoor

theorem filter_split {α : Type} {c : α → Bool} : ∀ {l m1 m2 : List α} {q : α}, l.filter c = m1 ++ q :: m2 → ∃ l1 l2, l = l1 ++ q :: l2 ∧ l1.filter c = m1 ∧ l2.filter c = m2 ∧ c q = true
  | [], m1, m2, q, h => by simp at h
  | a :: l, m1, m2, q, h => by
    by_cases ha : c a = true
    · rw [List.filter_cons_of_pos ha] at h
      cases m1 with
      | nil =>
        obtain ⟨rfl, rfl⟩ := List.cons.inj h
        exact ⟨[], l, rfl, rfl, rfl, ha⟩
      | cons b m1 =>
        obtain ⟨rfl, h2⟩ := List.cons.inj (show a :: l.filter c = b :: (m1 ++ q :: m2) from h)
        obtain ⟨l1, l2, e1, e2, e3, e4⟩ := filter_split h2
        exact ⟨a :: l1, l2, by rw [e1]; rfl, by rw [List.filter_cons_of_pos ha, e2], e3, e4⟩
    · rw [List.filter_cons_of_neg ha] at h
      obtain ⟨l1, l2, e1, e2, e3, e4⟩ := filter_split h
      exact ⟨a :: l1, l2, by rw [e1]; rfl, by rw [List.filter_cons_of_neg ha, e2], e3, e4⟩
def ofk (k : Int) (p : Pk) : Bool := decide (p.flow = k)
theorem stf_iff (k : Int) (p : Pk) : stf k p = true ↔ p.flow = k ∧ 0 ≤ p.start := by unfold stf; simp
/-- Where all of flow k have begun, that they have is no condition. -/
theorem filter_stf {l : List Pk} {k : Int} (h : ∀ p ∈ l, p.flow = k → 0 ≤ p.start) : l.filter (stf k) = l.filter (ofk k) := by
  refine List.filter_congr fun p hp => ?_
  unfold stf ofk
  by_cases e : p.flow = k
  · simp [e, h p hp e]
  · simp [e]
section
variable {x : Ln} {B : List Pk}
/-- One that began: where it lies. -/
theorem Od.place (o : Od x B) {b1 b2 : List Pk} {b : Pk} (e : B = b1 ++ b :: b2) : ∃ l1 p l2, x.pk = l1 ++ p :: l2 ∧ b = untold p ∧ 0 ≤ p.start ∧ (l1.filter (ofk b.flow)).map untold = b1.filter (ofk b.flow) ∧ (l2.filter (stf b.flow)).map untold = b2.filter (ofk b.flow) := by
  have hf := o.fb b.flow
  have hb : B.filter (fun p => decide (p.flow = b.flow)) = b1.filter (ofk b.flow) ++ b :: b2.filter (ofk b.flow) := by
    rw [e, List.filter_append, List.filter_cons_of_pos (by simp)]
    rfl
  rw [hb] at hf
  obtain ⟨m1, r, em, e1, e2⟩ := List.map_eq_append_iff.1 hf.symm
  obtain ⟨q, m2, er, e3, e4⟩ := List.map_eq_cons_iff.1 e2
  rw [er] at em
  obtain ⟨l1, l2, el, h1, h2, hq⟩ := filter_split em
  obtain ⟨hqf, hqs⟩ := (stf_iff _ _).1 hq
  refine ⟨l1, q, l2, el, e3.symm, hqs, ?_, by rw [h2]; exact e4⟩
  rw [← filter_stf (fun p hp hpf => o.pf l1 q l2 el hqs p hp (hpf.trans hqf.symm)), h1]
  exact e1
theorem Od.seq (o : Od x B) {b1 b2 : List Pk} {b : Pk} (e : B = b1 ++ b :: b2) : b.seq = ((b1.countP (ofk b.flow) : Nat) : Int) := by
  obtain ⟨l1, p, l2, el, rfl, hs, h1, _⟩ := o.place e
  have h2 := o.sq l1 p l2 el
  have h3 := congrArg List.length h1
  rw [List.length_map, ← List.countP_eq_length_filter, ← List.countP_eq_length_filter] at h3
  show p.seq = _
  rw [h2, ← h3]
  rfl
def szk (k : Int) (p : Pk) : Int := if p.flow = k then p.size else 0
theorem sumOf_filter (k : Int) (l : List Pk) : sumOf (szk k) l = sumOf Pk.size (l.filter (ofk k)) := by
  induction l with
  | nil => rfl
  | cons p l ih =>
    show szk k p + sumOf (szk k) l = _
    by_cases e : p.flow = k
    · rw [List.filter_cons_of_pos (by simpa [ofk] using e), ih]
      unfold szk
      rw [if_pos e]; rfl
    · rw [List.filter_cons_of_neg (by simpa [ofk] using e), ih]
      unfold szk
      rw [if_neg e]; omega
theorem sumOf_untold (l : List Pk) : sumOf Pk.size (l.map untold) = sumOf Pk.size l := by rw [sumOf_map]; rfl
theorem confL_at {f : Fl} {k r : Int} : ∀ {a b : List Sk} {p : Sk} {sum : Int}, confL f k r (a ++ p :: b) sum = true → p.flow = k → p.ready ≤ r ∧ sum + sumOf (fun x : Sk => if x.flow = k then x.size else 0) a + p.size ≤ f.am (r - p.ready)
  | [], b, p, sum, h, hp => by
    have h' : confL f k r (p :: b) sum = true := h
    unfold confL at h'
    rw [if_pos hp] at h'
    simp only [Bool.and_eq_true, decide_eq_true_eq] at h'
    refine ⟨h'.1.1.2, ?_⟩
    show sum + 0 + p.size ≤ _
    have := h'.1.2
    omega
  | q :: a, b, p, sum, h, hp => by
    have h' : confL f k r (q :: (a ++ p :: b)) sum = true := h
    unfold confL at h'
    by_cases e : q.flow = k
    · rw [if_pos e] at h'
      simp only [Bool.and_eq_true] at h'
      have := confL_at h'.2 hp
      refine ⟨this.1, ?_⟩
      show sum + ((if q.flow = k then q.size else 0) + sumOf _ a) + p.size ≤ _
      rw [if_pos e]
      have := this.2
      omega
    · rw [if_neg e] at h'
      have := confL_at h' hp
      refine ⟨this.1, ?_⟩
      show sum + ((if q.flow = k then q.size else 0) + sumOf _ a) + p.size ≤ _
      rw [if_neg e]
      have := this.2
      omega
theorem cfm_drop {f : Fl} {k : Int} {a b : List Sk} (h : Cfm f k (a ++ b)) : Cfm f k b := cfm_tail h
/-- How much of a flow began between two of its packets. -/
theorem Od.conf (o : Od x B) {b1 b2 b3 : List Pk} {b c : Pk} (e : B = b1 ++ b :: (b2 ++ c :: b3)) (hk : b.flow = c.flow) {k : Nat} {st : Stt} (hc : c.flow = (k : Int)) (hst : x.fl[k]? = some st) :
    b.ready ≤ c.ready ∧ c.size + sumOf (szk c.flow) b2 + b.size ≤ st.f.am (c.ready - b.ready) := by
  obtain ⟨l1, q, l2, el, rfl, hqs, h1, h2⟩ := o.place (b1 := b1 ++ b :: b2) (b := c) (b2 := b3) (by rw [e]; simp)
  have hqf : q.flow = (k : Int) := hc
  have hck : (untold q).flow = q.flow := rfl
  rw [hck] at h1 hk
  rw [List.filter_append, List.filter_cons_of_pos (by simpa [ofk] using hk)] at h1
  obtain ⟨m1, r, em, e1, e2⟩ := List.map_eq_append_iff.1 h1
  obtain ⟨z, m2, er, e3, e4⟩ := List.map_eq_cons_iff.1 e2
  rw [er] at em
  obtain ⟨n1, n2, en, h3, h4, hz⟩ := filter_split em
  have hzf : z.flow = q.flow := by simpa [ofk] using hz
  have hzb : b = untold z := e3.symm
  have hcf := o.inv.cf k st hst
  rw [el, en] at hcf
  have hrev : ((n1 ++ z :: n2 ++ q :: l2).map Pk.sk).reverse = (l2.map Pk.sk).reverse ++ (q.sk :: ((n2.map Pk.sk).reverse ++ z.sk :: (n1.map Pk.sk).reverse)) := by
    simp
  rw [hrev] at hcf
  have hc2 := (cfm_drop hcf).1 hqf (o.inv.st q (by rw [el]; simp) hqs).1
  have := confL_at hc2.2 (show z.sk.flow = (k : Int) from hzf.trans hqf)
  rw [hzb]
  refine ⟨this.1, ?_⟩
  have h5 := this.2
  have h6 : sumOf (fun x : Sk => if x.flow = (k : Int) then x.size else 0) (n2.map Pk.sk).reverse = sumOf (szk q.flow) b2 := by
    rw [sumOf_reverse, sumOf_map, hqf, sumOf_filter, ← hqf, ← e4, sumOf_untold, ← h4, ← sumOf_filter]
    rw [hqf]
    rfl
  rw [h6] at h5
  exact h5
theorem Od.conf1 (o : Od x B) {b1 b2 : List Pk} {c : Pk} (e : B = b1 ++ c :: b2) {k : Nat} {st : Stt} (hc : c.flow = (k : Int)) (hst : x.fl[k]? = some st) : c.size ≤ st.f.am 0 := by
  obtain ⟨l1, q, l2, el, rfl, hqs, _, _⟩ := o.place e
  have hcf := o.inv.cf k st hst
  rw [el] at hcf
  have hrev : ((l1 ++ q :: l2).map Pk.sk).reverse = (l2.map Pk.sk).reverse ++ (q.sk :: (l1.map Pk.sk).reverse) := by simp
  rw [hrev] at hcf
  exact ((cfm_drop hcf).1 hc (o.inv.st q (by rw [el]; simp) hqs).1).1
/-- Its size, among those of its flow. -/
theorem Od.size (o : Od x B) {b1 b2 : List Pk} {b : Pk} (e : B = b1 ++ b :: b2) : ∃ i : Nat, b.seq = (i : Int) ∧ ((x.pk.filter (ofk b.flow)).map Pk.size)[i]? = some b.size := by
  obtain ⟨l1, p, l2, el, rfl, hs, h1, _⟩ := o.place e
  have h2 := o.sq l1 p l2 el
  refine ⟨l1.countP (fun q : Pk => decide (q.flow = p.flow)), h2, ?_⟩
  show ((x.pk.filter (ofk p.flow)).map Pk.size)[_]? = some p.size
  rw [el, List.filter_append, List.filter_cons_of_pos (by simp [ofk]), List.map_append, List.map_cons]
  have hl : ((l1.filter (ofk p.flow)).map Pk.size).length = l1.countP fun q => decide (q.flow = p.flow) := by
    rw [List.length_map, ← List.countP_eq_length_filter]; rfl
  rw [List.getElem?_append_right (by omega), hl, Nat.sub_self]
  rfl
/-- What of all is still to go. -/
def rest (now : Int) (p : Pk) : Int := if p.start < 0 ∧ p.dropped = false then p.size else if 0 ≤ p.start ∧ now < p.start + p.size then p.start + p.size - now else 0
def Ln.todo (x : Ln) : Int := sumOf (rest x.now) x.pk
/-- One of none is still to go. -/
def Ln.oth (x : Ln) : Prop := ∃ p ∈ x.pk, p.flow = -1 ∧ (p.start < 0 ∨ x.now < p.start + p.size)
theorem rest_nonneg {now : Int} {p : Pk} (h : 1 ≤ p.size) : 0 ≤ rest now p := by
  unfold rest
  split
  · omega
  · split <;> omega
theorem rest_le (now : Int) (p : Pk) : rest (now + 1) p ≤ rest now p := by
  unfold rest
  split
  · exact Int.le_refl _
  · split
    · split <;> omega
    · split <;> omega
theorem Ln.oth_off (o : Od x B) (h : x.oth) : 1 ≤ x.todo := by
  obtain ⟨p, hp, hf, hs⟩ := h
  have hz := fun q hq => rest_nonneg (now := x.now) (o.inv.sz q hq).1
  have hge := sumOf_ge_mem hz hp
  have h1 := (o.inv.sz p hp).1
  have hst := o.inv.st p hp
  have hd : p.dropped = false := by
    rw [← Bool.not_eq_true]
    intro c
    have := (o.dz p hp c).1
    omega
  have : 1 ≤ rest x.now p := by
    unfold rest
    rcases hs with hs | hs
    · rw [if_pos ⟨hs, hd⟩]; exact h1
    · by_cases g : p.start < 0
      · rw [if_pos ⟨g, hd⟩]; exact h1
      · rw [if_neg (fun c => g c.1), if_pos ⟨by omega, hs⟩]; omega
  show 1 ≤ sumOf (rest x.now) x.pk
  omega
theorem sum_later (now : Int) (l : List Pk) : sumOf (rest (now + 1)) l ≤ sumOf (rest now) l := sumOf_le fun p _ => rest_le now p
theorem rest_wait {now : Int} {p : Pk} (h : p.start < 0) (hd : p.dropped = false) : rest now p = p.size := if_pos ⟨h, hd⟩
theorem rest_way {now : Int} {p : Pk} (h : 0 ≤ p.start) : rest now p = if now < p.start + p.size then p.start + p.size - now else 0 := by
  unfold rest
  rw [if_neg (fun c => by have := c.1; omega)]
  by_cases g : now < p.start + p.size
  · rw [if_pos ⟨h, g⟩, if_pos g]
  · rw [if_neg (fun c => g c.2), if_neg g]
theorem adv_todo (o : Od x B) : x.adv.todo ≤ x.todo ∧ (x.oth → x.adv.todo ≤ x.todo - 1) ∧ (x.adv.oth → x.oth) := by
  have hsz : ∀ p ∈ x.pk, 1 ≤ p.size := fun p hp => (o.inv.sz p hp).1
  cases e : x.busy with
  | true =>
    have ha : x.adv = { x with now := x.now + 1 } := by unfold Ln.adv Ln.begins; rw [if_pos e]
    rw [ha]
    obtain ⟨l1, p, l2, ep, _, _, h0, h1, _, _⟩ := o.inv.bsy e
    have hd : sumOf (rest (x.now + 1)) x.pk ≤ sumOf (rest x.now) x.pk - 1 := by
      rw [ep, sumOf_append, sumOf_append]
      have a1 := sum_later x.now l1
      have a2 := sum_later x.now l2
      have a3 : rest (x.now + 1) p = rest x.now p - 1 := by
        rw [rest_way h0, rest_way h0, if_pos h1]
        split <;> omega
      show _ + (rest (x.now + 1) p + sumOf (rest (x.now + 1)) l2) ≤ _ + (rest x.now p + sumOf (rest x.now) l2) - 1
      omega
    refine ⟨by show sumOf (rest (x.now + 1)) x.pk ≤ sumOf (rest x.now) x.pk; omega, fun _ => hd, ?_⟩
    rintro ⟨q, hq, hf, hs⟩
    exact ⟨q, hq, hf, hs.imp id fun c => by have c' : x.now + 1 < q.start + q.size := c; omega⟩
  | false =>
    have hall := o.inv.idle e
    have ne : ¬ x.busy = true := by rw [e]; decide
    cases g : x.goes with
    | none =>
      have ha : x.adv = { x with now := x.now + 1 } := by unfold Ln.adv Ln.begins; rw [if_neg ne, g]
      rw [ha]
      have hno : ¬ x.oth := by
        rintro ⟨q, hq, hf, hs⟩
        have hqd := hall q hq
        unfold done at hqd
        have hq0 : q.start < 0 := by omega
        have hod := o.od q hq (by omega)
        have hd : q.dropped = false := by
          rw [← Bool.not_eq_true]
          intro c
          have := (o.dz q hq c).1
          omega
        unfold Ln.goes at g
        split at g
        · cases g
        · have hn := first_none g q hq
          rw [← Bool.not_eq_true, elB_iff] at hn
          exact hn ⟨⟨hq0, hd, hod.2.1, hod.2.2⟩, by simp; omega⟩
      refine ⟨sum_later x.now x.pk, fun c => absurd c hno, ?_⟩
      rintro ⟨q, hq, hf, hs⟩
      exact ⟨q, hq, hf, hs.imp id fun c => by have c' : x.now + 1 < q.start + q.size := c; omega⟩
    | some b =>
      obtain ⟨l1, p, l2, ep, hi, he, _⟩ := goes_some g
      have ha : x.adv = ⟨x.now + 1, x.fl, l1 ++ beg x.now p :: l2, x.began ++ [l1.length]⟩ := by
        unfold Ln.adv Ln.begins; rw [if_neg ne, g]
        simp only [hi]
        rw [ep, modify_at]
      rw [ha]
      have n0 := o.inv.n0
      have hps := hsz p (by rw [ep]; simp)
      have hd : sumOf (rest (x.now + 1)) (l1 ++ beg x.now p :: l2) ≤ sumOf (rest x.now) x.pk - 1 := by
        rw [ep, sumOf_append, sumOf_append]
        have a1 := sum_later x.now l1
        have a2 := sum_later x.now l2
        have a3 : rest (x.now + 1) (beg x.now p) ≤ rest x.now p - 1 := by
          have e1 : (beg x.now p).start = x.now := rfl
          have e2 : (beg x.now p).size = p.size := rfl
          rw [rest_wait he.1 he.2.1, rest_way (by omega)]
          split <;> omega
        show _ + (rest (x.now + 1) (beg x.now p) + sumOf (rest (x.now + 1)) l2) ≤ _ + (rest x.now p + sumOf (rest x.now) l2) - 1
        omega
      refine ⟨by show sumOf (rest (x.now + 1)) (l1 ++ beg x.now p :: l2) ≤ sumOf (rest x.now) x.pk; omega, fun _ => hd, ?_⟩
      rintro ⟨q, hq, hf, hs⟩
      rcases List.mem_append.1 (show q ∈ l1 ++ beg x.now p :: l2 from hq) with hq | hq
      · exact ⟨q, by rw [ep]; simp [hq], hf, hs.imp id fun c => by have c' : x.now + 1 < q.start + q.size := c; omega⟩
      · rcases List.mem_cons.1 hq with rfl | hq
        · exact ⟨p, by rw [ep]; simp, hf, .inl he.1⟩
        · exact ⟨q, by rw [ep]; simp [hq], hf, hs.imp id fun c => by have c' : x.now + 1 < q.start + q.size := c; omega⟩
theorem tick_todo (o : Od x B) : x.tick.todo ≤ x.todo ∧ (x.oth → x.tick.todo ≤ x.todo - 1) ∧ (x.tick.oth → x.oth) := by
  rw [tick_adv]
  have h := adv_todo (od_away o)
  have e1 : x.away.todo = x.todo := by unfold Ln.away; split <;> rfl
  have e2 : x.away.oth ↔ x.oth := by unfold Ln.away; split <;> exact Iff.rfl
  rw [e1, e2] at h
  exact h
theorem ticks_todo : ∀ (n : Nat) {x : Ln} {B : List Pk}, Od x B → ((x.ticks n).oth → x.oth ∧ (x.ticks n).todo ≤ x.todo - n)
  | 0, x, B, _ => fun h => ⟨h, by show x.todo ≤ x.todo - ((0 : Nat) : Int); omega⟩
  | n + 1, x, B, o => fun h => by
    obtain ⟨C, hC⟩ := od_tick o
    have ih := ticks_todo n hC h
    have ht := tick_todo o
    have ho := ht.2.2 ih.1
    refine ⟨ho, ?_⟩
    have := ht.2.1 ho
    have := ih.2
    show (x.tick.ticks n).todo ≤ _
    omega
theorem todo_le (o : Od x B) : x.todo ≤ 8 * x.pk.length := by
  have hs : ∀ p ∈ x.pk, rest x.now p ≤ 8 := fun p hp => by
    have h1 := o.inv.sz p hp
    have h2 := o.inv.st p hp
    unfold rest
    split
    · omega
    · split
      · rename_i c
        have := h2 c.1
        omega
      · omega
  unfold Ln.todo
  generalize x.pk = l at hs
  induction l with
  | nil => simp [sumOf]
  | cons p l ih =>
    have h1 := hs p (List.mem_cons_self ..)
    have h2 := ih fun q hq => hs q (List.mem_cons_of_mem _ hq)
    simp only [sumOf, List.length_cons]
    omega
/-- Behind so many ticks none of none is still to go. -/
theorem oth_ends (o : Od x B) (n : Nat) (h : 8 * x.pk.length ≤ n) : ¬ (x.ticks n).oth := fun c => by
  have h1 := ticks_todo n o c
  have h2 := todo_le o
  have h3 : ∃ C, Od (x.ticks n) C := by
    clear h c h1 h2
    induction n generalizing x B with
    | zero => exact ⟨B, o⟩
    | succ n ih =>
      obtain ⟨C, hC⟩ := od_tick o
      exact ih hC
  obtain ⟨C, hC⟩ := h3
  have := Ln.oth_off hC c
  omega
end
end Go.Proofs.YtcnmajndackohaaGreatDoor
/-
  Plain: what a play has told is what began, as far as it has ended.
-/
namespace Go.Proofs.YtcnmajndackohaaGreatDoor

/-- What began, in its order. -/
def Ln.bg (x : Ln) : List Pk := x.began.filterMap fun i => x.pk[i]?
section
variable {x : Ln} {B : List Pk}
theorem fm_get {α β : Type} {f : α → Option β} {g : α → β} : ∀ {l : List α}, (∀ a ∈ l, f a = some (g a)) → l.filterMap f = l.map g
  | [], _ => rfl
  | a :: l, h => by
    rw [List.filterMap_cons_some (h a (List.mem_cons_self ..)), List.map_cons, fm_get fun b hb => h b (List.mem_cons_of_mem _ hb)]
theorem Od.bgs (o : Od x B) : x.bg.map untold = B := by
  have hlen : x.bg.length = x.began.length := by
    unfold Ln.bg
    have hall : ∀ i ∈ x.began, (x.pk[i]?).isSome = true := fun i hi => by
      obtain ⟨p, hp, _⟩ := o.inv.bg i hi
      rw [hp]; rfl
    generalize x.began = l at hall
    induction l with
    | nil => rfl
    | cons i l ih =>
      obtain ⟨p, hp⟩ := Option.isSome_iff_exists.1 (hall i (List.mem_cons_self ..))
      rw [List.filterMap_cons_some hp, List.length_cons, List.length_cons, ih fun j hj => hall j (List.mem_cons_of_mem _ hj)]
  have hget : ∀ (j i : Nat), x.began[j]? = some i → x.bg[j]? = x.pk[i]? := by
    unfold Ln.bg
    have hall : ∀ i ∈ x.began, (x.pk[i]?).isSome = true := fun i hi => by
      obtain ⟨p, hp, _⟩ := o.inv.bg i hi
      rw [hp]; rfl
    generalize x.began = l at hall
    induction l with
    | nil => intro j i h; simp at h
    | cons a l ih =>
      intro j i h
      obtain ⟨p, hp⟩ := Option.isSome_iff_exists.1 (hall a (List.mem_cons_self ..))
      rw [List.filterMap_cons_some hp]
      cases j with
      | zero =>
        obtain rfl : a = i := by simpa using h
        rw [hp]; rfl
      | succ j => exact ih (fun b hb => hall b (List.mem_cons_of_mem _ hb)) j i h
  refine List.ext_getElem? fun j => ?_
  rw [List.getElem?_map]
  rcases Nat.lt_or_ge j x.began.length with g | g
  · have h1 : x.began[j]? = some x.began[j] := List.getElem?_eq_getElem g
    obtain ⟨p, hp, hB⟩ := o.ba j _ h1
    rw [hget j _ h1, hp, hB]; rfl
  · rw [List.getElem?_eq_none (by omega), List.getElem?_eq_none (by rw [o.bl]; omega)]; rfl
/-- What has been told, and what not: P1 and P2. -/
structure Tld (x : Ln) (P1 P2 : List Pk) : Prop where
  e : x.bg = P1 ++ P2
  t1 : ∀ p ∈ P1, p.told = true
  t2 : ∀ p ∈ P2, p.told = false
  tl : ∀ p ∈ x.pk, p.told = true → 0 ≤ p.start
theorem bg_beg (o : Od x B) {l1 l2 : List Pk} {p : Pk} (ep : x.pk = l1 ++ p :: l2) (hs : p.start < 0) (z : Pk) (n : Int) : (⟨n, x.fl, l1 ++ z :: l2, x.began ++ [l1.length]⟩ : Ln).bg = x.bg ++ [z] := by
  unfold Ln.bg
  show (x.began ++ [l1.length]).filterMap (fun i => (l1 ++ z :: l2)[i]?) = _
  rw [List.filterMap_append]
  congr 1
  · refine fm_congr _ _ _ fun i hi => ?_
    obtain ⟨q, hq, h0⟩ := o.inv.bg i hi
    rw [ep]
    refine get_far ?_
    rintro rfl
    rw [ep, get_at] at hq
    obtain rfl := Option.some.inj hq
    omega
  · rw [List.filterMap_cons_some (b := z) get_at]; rfl
theorem tld_adv (o : Od x B) {P1 P2 : List Pk} (t : Tld x P1 P2) : ∃ C, Tld x.adv P1 (P2 ++ C) := by
  refine adv_cases2 o.inv (P := fun y => ∃ C, Tld y P1 (P2 ++ C)) ⟨[], ?_⟩ ?_
  · rw [List.append_nil]; exact ⟨t.e, t.t1, t.t2, t.tl⟩
  · intro l1 p l2 b hg hi hall ep he
    have ht : p.told = false := by
      rw [← Bool.not_eq_true]
      intro c
      have := t.tl p (by rw [ep]; simp) c
      have := he.1
      omega
    refine ⟨[beg x.now p], ?_, t.t1, ?_, ?_⟩
    · rw [bg_beg o ep he.1, t.e, List.append_assoc]
    · intro q hq
      rcases List.mem_append.1 hq with hq | hq
      · exact t.t2 q hq
      · rw [List.mem_singleton.1 hq]; exact ht
    · intro q hq qt
      rcases List.mem_append.1 (show q ∈ l1 ++ beg x.now p :: l2 from hq) with hq | hq
      · exact t.tl q (by rw [ep]; simp [hq]) qt
      · rcases List.mem_cons.1 hq with rfl | hq
        · exact o.inv.n0
        · exact t.tl q (by rw [ep]; simp [hq]) qt
theorem tld_ticks : ∀ (n : Nat) {x : Ln} {B : List Pk} {P1 P2 : List Pk}, Od x B → Tld x P1 P2 → ∃ C D, Od (x.ticks n) C ∧ Tld (x.ticks n) P1 (P2 ++ D)
  | 0, x, B, P1, P2, o, t => ⟨B, [], o, by rw [List.append_nil]; exact t⟩
  | n + 1, x, B, P1, P2, o, t => by
    obtain ⟨C, hC⟩ := od_tick o
    have ta : Tld x.away P1 P2 := by
      unfold Ln.away
      split
      · exact t
      · exact ⟨t.e, t.t1, t.t2, t.tl⟩
    obtain ⟨D, hD⟩ := tld_adv (od_away o) ta
    rw [← tick_adv] at hD
    obtain ⟨C', D', h1, h2⟩ := tld_ticks n hC hD
    exact ⟨C', D ++ D', h1, by rw [← List.append_assoc]; exact h2⟩
theorem end_split {e : Pk → Bool} {l : List Pk} (h : ∀ l1 p q l2, l = l1 ++ p :: q :: l2 → e p = true) : l = l.filter e ++ l.filter fun p => !e p := by
  rcases List.eq_nil_or_concat l with rfl | ⟨l0, z, rfl⟩
  · rfl
  · rw [List.concat_eq_append] at h ⊢
    have h0 : ∀ p ∈ l0, e p = true := fun p hp => by
      obtain ⟨a, b, rfl⟩ := List.append_of_mem hp
      cases b with
      | nil => exact h a p z [] (by simp)
      | cons q b => exact h a p q (b ++ [z]) (by simp)
    have f1 : l0.filter e = l0 := List.filter_eq_self.2 h0
    have f2 : l0.filter (fun p => !e p) = [] := List.filter_eq_nil_iff.2 fun p hp => by rw [h0 p hp]; decide
    rw [List.filter_append, List.filter_append, f1, f2]
    cases hz : e z <;> simp [hz]
def endB (now : Int) (p : Pk) : Bool := decide (p.start + p.size ≤ now)
/-- What Gone tells. -/
theorem tld_gone (o : Od x B) {P1 P2 : List Pk} (t : Tld x P1 P2) : x.gone.1 = P2.filter (endB x.now) ∧ Tld x.gone.2 (P1 ++ x.gone.1.map tell) (P2.filter fun p => !endB x.now p) := by
  have hfst : x.gone.1 = P2.filter (endB x.now) := by
    show (goneL x.now x.began x.pk).1 = _
    rw [gone_fst x.now x.began x.pk o.nd]
    show x.bg.filter (fresh1 x.now) = _
    rw [t.e, List.filter_append]
    rw [List.filter_eq_nil_iff.2 fun p hp => by unfold fresh1; rw [t.t1 p hp]; simp, List.nil_append]
    refine List.filter_congr fun p hp => ?_
    unfold fresh1 endB
    rw [t.t2 p hp]; rfl
  refine ⟨hfst, ?_⟩
  have hbg : x.gone.2.bg = x.bg.map fun p => if fresh1 x.now p = true then tell p else p := by
    unfold Ln.bg
    show x.began.filterMap (fun i => (goneL x.now x.began x.pk).2[i]?) = _
    rw [List.map_filterMap]
    refine fm_congr _ _ _ fun i hi => ?_
    rw [told_get x.now x.began x.pk i]
    cases x.pk[i]? with
    | none => rfl
    | some p => simp [hi]
  have hend : ∀ l1 p q l2, P2 = l1 ++ p :: q :: l2 → endB x.now p = true := by
    intro l1 p q l2 e
    have hB : B = (P1 ++ l1).map untold ++ untold p :: untold q :: l2.map untold := by
      rw [← o.bgs, t.e, e]; simp
    have h1 := o.bo _ _ _ _ hB
    have hq : untold q ∈ B := by rw [hB]; simp
    obtain ⟨r, hr, er, hr0⟩ := o.mem hq
    have h2 := o.inv.st r hr hr0
    have h3 : (untold q).start = (untold r).start := congrArg Pk.start er
    have h3' : q.start = r.start := h3
    have h1' : p.start + p.size ≤ q.start := h1
    unfold endB
    simp only [decide_eq_true_eq]
    omega
  have hs := end_split hend
  refine ⟨?_, ?_, ?_, ?_⟩
  · rw [hbg, t.e, List.map_append, List.append_assoc]
    congr 1
    · conv => rhs; rw [← List.map_id P1]
      refine List.map_congr_left fun p hp => ?_
      have : fresh1 x.now p = false := by unfold fresh1; rw [t.t1 p hp]; rfl
      rw [if_neg (by rw [this]; decide)]; rfl
    · rw [hfst]
      conv => lhs; rw [hs]
      rw [List.map_append]
      congr 1
      · refine List.map_congr_left fun p hp => ?_
        obtain ⟨hp1, hp2⟩ := List.mem_filter.1 hp
        have : fresh1 x.now p = true := by unfold fresh1; rw [t.t2 p hp1]; simpa [endB] using hp2
        rw [if_pos this]
      · conv => rhs; rw [← List.map_id (P2.filter fun p => !endB x.now p)]
        refine List.map_congr_left fun p hp => ?_
        obtain ⟨hp1, hp2⟩ := List.mem_filter.1 hp
        have : fresh1 x.now p = false := by unfold fresh1; rw [t.t2 p hp1]; simpa [endB] using hp2
        rw [if_neg (by rw [this]; decide)]; rfl
  · intro p hp
    rcases List.mem_append.1 hp with hp | hp
    · exact t.t1 p hp
    · obtain ⟨q, _, rfl⟩ := List.mem_map.1 hp; rfl
  · intro p hp
    exact t.t2 p (List.mem_filter.1 hp).1
  · intro p hp pt
    obtain ⟨j, hj⟩ := List.mem_iff_getElem?.1 hp
    have hj' : (goneL x.now x.began x.pk).2[j]? = some p := hj
    rw [told_get x.now x.began x.pk j] at hj'
    obtain ⟨q, hq, e⟩ := Option.map_eq_some_iff.1 hj'
    have hqm := List.mem_of_getElem? hq
    by_cases c : j ∈ x.began ∧ fresh1 x.now q = true
    · rw [if_pos c] at e
      obtain ⟨q', hq', h0⟩ := o.inv.bg j c.1
      rw [hq] at hq'
      obtain rfl := Option.some.inj hq'
      rw [← e]; exact h0
    · rw [if_neg c] at e
      rw [← e] at pt ⊢
      exact t.tl q hqm pt
end
/-- A play: what it has told, and what was brought. -/
structure Ors (s : Pst) : Prop where
  od : ∃ B, Od s.x B
  td : ∃ P1 P2, Tld s.x P1 P2 ∧ s.gone.map untold = P1.map untold
  se : ∀ (k : Nat) l, s.sent[k]? = some l → l = (s.x.pk.filter (ofk k)).map Pk.size
  ot : s.other = (s.x.pk.filter (ofk (-1))).map Pk.size
  sl : s.sent.length = s.x.fl.length
/-- What was brought, by what the packets always are. -/
theorem sizes_sk {l m : List Pk} (h : l.map Pk.sk = m.map Pk.sk) (k : Int) : (l.filter (ofk k)).map Pk.size = (m.filter (ofk k)).map Pk.size := by
  induction l generalizing m with
  | nil =>
    cases m with
    | nil => rfl
    | cons => simp at h
  | cons p l ih =>
    cases m with
    | nil => simp at h
    | cons q m =>
      simp only [List.map_cons, List.cons.injEq] at h
      have h1 : p.flow = q.flow := congrArg Sk.flow h.1
      have h2 : p.size = q.size := congrArg Sk.size h.1
      have i := ih h.2
      by_cases c : p.flow = k
      · rw [List.filter_cons_of_pos (by simpa [ofk] using c), List.filter_cons_of_pos (by simpa [ofk, ← h1] using c), List.map_cons, List.map_cons, i, h2]
      · rw [List.filter_cons_of_neg (by simpa [ofk] using c), List.filter_cons_of_neg (by simpa [ofk, ← h1] using c), i]
section
variable {s : Pst}
theorem Ors.same (h : Ors s) {y : Ln} {g : List Pk} (e : y.pk.map Pk.sk = s.x.pk.map Pk.sk) (hl : y.fl.length = s.x.fl.length) (hod : ∃ B, Od y B) (htd : ∃ P1 P2, Tld y P1 P2 ∧ g.map untold = P1.map untold) : Ors { s with x := y, gone := g } :=
  ⟨hod, htd, fun k l hk => (h.se k l hk).trans (sizes_sk e k).symm, h.ot.trans (sizes_sk e (-1)).symm, h.sl.trans hl.symm⟩
/-- All that has ended has been told. -/
def Ended (s : Pst) : Prop := ∃ P1 P2, Tld s.x P1 P2 ∧ s.gone.map untold = P1.map untold ∧ ∀ p ∈ P2, s.x.now < p.start + p.size
theorem ticks_lenF (n : Nat) (x : Ln) : (x.ticks n).fl.length = x.fl.length := by
  have := congrArg List.length (ticks_fl n x)
  rwa [List.length_map, List.length_map] at this
theorem ors_run {s : Pst} (h : Ors s) (t : Int) : Ors (s.runs t) ∧ Ended (s.runs t) := by
  obtain ⟨B, o⟩ := h.od
  obtain ⟨P1, P2, htd, hg⟩ := h.td
  obtain ⟨n, hn⟩ : ∃ n, (s.x.run t).2 = s.x.ticks n := by
    unfold Ln.run
    split
    · exact ⟨0, rfl⟩
    · exact ⟨_, rfl⟩
  obtain ⟨C, D, o1, t1⟩ := tld_ticks n o htd
  have hsk := (ticks_sk n s.x).2.1
  have hfl := ticks_lenF n s.x
  rw [← hn] at o1 t1 hsk hfl
  obtain ⟨e, t2⟩ := tld_gone o1 t1
  have hgg : (s.gone ++ (s.x.run t).2.gone.1).map untold = (P1 ++ (s.x.run t).2.gone.1.map tell).map untold := by
    rw [List.map_append, List.map_append, hg, List.map_map]
    congr 1
  have htg : ∃ P1 P2, Tld (s.x.run t).2.gone.2 P1 P2 ∧ (s.gone ++ (s.x.run t).2.gone.1).map untold = P1.map untold ∧ ∀ p ∈ P2, (s.x.run t).2.gone.2.now < p.start + p.size :=
    ⟨_, _, t2, hgg, fun p hp => by
      have := (List.mem_filter.1 hp).2
      unfold endB at this
      simp only [Bool.not_eq_true', decide_eq_false_iff_not] at this
      show (s.x.run t).2.now < _
      omega⟩
  refine ⟨h.same ((untold_sk _ _ (gone_untold _ _ _)).trans hsk) hfl ⟨C, od_gone o1⟩ (let ⟨a, b, c, d, _⟩ := htg; ⟨a, b, c, d⟩), htg⟩
theorem bg_push {x : Ln} (h : Lnv x) (k size r : Int) : (x.push k size r).bg = x.bg := by
  unfold Ln.bg
  refine fm_congr _ _ _ fun i hi => ?_
  obtain ⟨p, hp, _⟩ := h.bg i hi
  have hl : i < x.pk.length := (List.getElem?_eq_some_iff.1 hp).1
  show (x.pk ++ [_])[i]? = x.pk[i]?
  rw [List.getElem?_append_left hl]
theorem tld_push {x : Ln} (h : Lnv x) {P1 P2 : List Pk} (t : Tld x P1 P2) (k size r : Int) : Tld (x.push k size r) P1 P2 := by
  refine ⟨by rw [bg_push h]; exact t.e, t.t1, t.t2, fun p hp pt => ?_⟩
  rcases push_mem hp with g | rfl
  · exact t.tl p g pt
  · cases pt
theorem push_sizes (x : Ln) (k size r j : Int) : ((x.push k size r).pk.filter (ofk j)).map Pk.size = (x.pk.filter (ofk j)).map Pk.size ++ if k = j then [size] else [] := by
  show ((x.pk ++ [_]).filter (ofk j)).map Pk.size = _
  rw [List.filter_append, List.map_append, List.filter_cons]
  by_cases g : k = j <;> simp [ofk, g]
theorem Ors.oth (h : Ors s) (z : Int) : Ors (s.oth z) := by
  obtain ⟨B, o⟩ := h.od
  obtain ⟨P1, P2, htd, hg⟩ := h.td
  have ho := od_other o z
  unfold Pst.oth
  unfold Ln.other at ho ⊢
  split
  · rw [if_neg (show ¬ (5 : Int) = 0 by decide)]; exact h
  · split
    · rw [if_neg (show ¬ (6 : Int) = 0 by decide)]; exact h
    · rename_i c1 c2
      rw [if_neg c1, if_neg c2] at ho
      rw [if_pos rfl]
      refine ⟨⟨B, ho⟩, ⟨P1, P2, tld_push o.inv htd _ _ _, hg⟩, fun k l hk => ?_, ?_, h.sl⟩
      · show l = ((s.x.push (-1) z s.x.now).pk.filter (ofk k)).map Pk.size
        rw [push_sizes, if_neg (by omega), List.append_nil]; exact h.se k l hk
      · show s.other ++ [z] = ((s.x.push (-1) z s.x.now).pk.filter (ofk (-1))).map Pk.size
        rw [push_sizes, if_pos rfl, h.ot]
theorem Ors.snd (h : Ors s) (k : Nat) (z : Int) : Ors (s.snd k z) := by
  obtain ⟨B, o⟩ := h.od
  obtain ⟨P1, P2, htd, hg⟩ := h.td
  have ho := od_send o k z
  by_cases e : (s.x.send k z).1 = 0
  · have hx : ∃ r, (s.x.send k z).2 = s.x.push k z r ∧ ∃ st, s.x.fl[k]? = some st := by
      unfold Ln.send at e ⊢
      split
      · rename_i q
        rw [q] at e; cases e
      · rename_i st q
        rw [q] at e
        simp only at e ⊢
        split
        · rename_i c
          rw [if_pos c] at e; cases e
        · rename_i c
          rw [if_neg c] at e
          split
          · rename_i c2
            rw [if_pos c2] at e; cases e
          · rename_i c2
            rw [if_neg c2] at e
            split
            · rename_i c3
              rw [if_pos c3] at e; cases e
            · refine ⟨_, rfl, st, ?_⟩
              obtain ⟨_, hh⟩ := at_some q
              rwa [Int.toNat_natCast] at hh
    obtain ⟨r, hx, st, hst⟩ := hx
    have hkl : k < s.sent.length := by rw [h.sl]; exact (List.getElem?_eq_some_iff.1 hst).1
    have hu : s.snd k z = { s with x := s.x.push k z r, sent := s.sent.set k (s.sent[k] ++ [z]) } := by
      unfold Pst.snd
      rw [if_pos e, List.getElem?_eq_getElem hkl, hx]
    rw [hx] at ho
    rw [hu]
    refine ⟨⟨B, ho⟩, ⟨P1, P2, tld_push o.inv htd _ _ _, hg⟩, fun j l hj => ?_, ?_, ?_⟩
    · show l = ((s.x.push k z r).pk.filter (ofk j)).map Pk.size
      rw [push_sizes]
      have hj' : (s.sent.set k (s.sent[k] ++ [z]))[j]? = some l := hj
      by_cases c : k = j
      · subst c
        rw [List.getElem?_set_self hkl] at hj'
        rw [← Option.some.inj hj', if_pos rfl, h.se k _ (List.getElem?_eq_getElem hkl)]
      · rw [List.getElem?_set_ne c] at hj'
        rw [if_neg (by omega), List.append_nil]; exact h.se j l hj'
    · show s.other = ((s.x.push k z r).pk.filter (ofk (-1))).map Pk.size
      rw [push_sizes, if_neg (by omega), List.append_nil]; exact h.ot
    · show (s.sent.set k (s.sent[k] ++ [z])).length = s.x.fl.length
      rw [List.length_set]; exact h.sl
  · have hx : (s.x.send k z).2 = s.x := by
      unfold Ln.send at e ⊢
      split
      · rfl
      · rename_i st q
        rw [q] at e
        simp only at e ⊢
        split
        · rfl
        · rename_i c
          rw [if_neg c] at e
          split
          · rfl
          · rename_i c2
            rw [if_neg c2] at e
            split
            · rfl
            · rename_i c3
              rw [if_neg c3] at e
              exact absurd rfl e
    have hu : s.snd k z = s := by
      unfold Pst.snd
      rw [if_neg e, hx]
    rw [hu]; exact h
theorem Ors.stp (h : Ors s) (f : Fl) : Ors (s.stp f) := by
  obtain ⟨B, o⟩ := h.od
  obtain ⟨P1, P2, htd, hg⟩ := h.td
  unfold Pst.stp
  split
  · rename_i e
    have ho := od_setup o f
    rw [setup_yes e] at ho ⊢
    refine ⟨⟨B, ho⟩, ⟨P1, P2, ⟨htd.e, htd.t1, htd.t2, htd.tl⟩, hg⟩, fun k l hk => ?_, h.ot, ?_⟩
    · have hk' : (s.sent ++ [[]])[k]? = some l := hk
      show l = (s.x.pk.filter (ofk k)).map Pk.size
      rcases Nat.lt_or_ge k s.sent.length with g | g
      · rw [List.getElem?_append_left g] at hk'; exact h.se k l hk'
      · rw [List.getElem?_append_right g] at hk'
        have h0 : k - s.sent.length = 0 := by
          rcases Nat.eq_zero_or_pos (k - s.sent.length) with c | c
          · exact c
          · rw [List.getElem?_eq_none (by simp; omega)] at hk'; cases hk'
        rw [h0] at hk'
        have hl : l = [] := (Option.some.inj hk').symm
        rw [hl, List.filter_eq_nil_iff.2]
        · rfl
        · intro p hp c
          have c' : p.flow = (k : Int) := by simpa [ofk] using c
          have := o.inv.own p hp (by omega)
          have := h.sl
          omega
    · show (s.sent ++ [[]]).length = (s.x.fl ++ [_]).length
      rw [List.length_append, List.length_append, h.sl]; rfl
  · exact h
theorem bg_drp {x : Ln} (h : Lnv x) (fl : List Stt) (k : Int) : ({ x with fl := fl, pk := x.pk.map (drp x.now k) } : Ln).bg = x.bg := by
  unfold Ln.bg
  refine fm_congr _ _ _ fun i hi => ?_
  obtain ⟨p, hp, h0⟩ := h.bg i hi
  show (x.pk.map (drp x.now k))[i]? = _
  rw [List.getElem?_map, hp, Option.map_some, drp_started h0]
theorem Ors.trn (h : Ors s) (k : Nat) : Ors (s.trn k) := by
  obtain ⟨B, o⟩ := h.od
  obtain ⟨P1, P2, htd, hg⟩ := h.td
  have ho := od_teardown o (k : Int)
  have key : Tld (s.x.teardown k).2 P1 P2 ∧ (s.x.teardown k).2.pk.map Pk.sk = s.x.pk.map Pk.sk ∧ (s.x.teardown k).2.fl.length = s.x.fl.length := by
    refine teardown_cases (P := fun y => Tld y P1 P2 ∧ y.pk.map Pk.sk = s.x.pk.map Pk.sk ∧ y.fl.length = s.x.fl.length) ⟨htd, rfl, rfl⟩ fun st ha hi => ?_
    have hy : Tld { s.x with fl := s.x.fl.set (k : Int).toNat ⟨st.f, 1⟩, pk := s.x.pk.map (drp s.x.now k) } P1 P2 := by
      refine ⟨by rw [bg_drp o.inv]; exact htd.e, htd.t1, htd.t2, fun p hp pt => ?_⟩
      obtain ⟨q, hq, rfl⟩ := List.mem_map.1 (show p ∈ s.x.pk.map (drp s.x.now k) from hp)
      have h1 : (drp s.x.now k q).told = q.told := by unfold drp; split <;> rfl
      rw [h1] at pt
      rw [(same_drp (now := s.x.now) (k : Int)).st]
      exact htd.tl q hq pt
    unfold Ln.away
    split
    · exact ⟨hy, drp_sks _ _ _, by show (s.x.fl.set _ _).length = _; rw [List.length_set]⟩
    · exact ⟨⟨hy.e, hy.t1, hy.t2, hy.tl⟩, drp_sks _ _ _, by show ((s.x.fl.set _ _).map gone1).length = _; rw [List.length_map, List.length_set]⟩
  exact h.same key.2.1 key.2.2 ⟨B, ho⟩ ⟨P1, P2, key.1, hg⟩
theorem Ors.act (h : Ors s) (q : Stp) : Ors (s.act q) := by
  unfold Pst.act
  split
  · split
    · exact h.snd _ _
    · exact h
  · split
    · exact h.oth _
    · split
      · exact (ors_run h _).1
      · split
        · exact h.stp _
        · split
          · split
            · exact h
            · exact h.trn _
          · exact h
theorem ors_acts (h : Ors s) (l : List Stp) : Ors (s.acts l) := by
  induction l generalizing s with
  | nil => exact h
  | cons q l ih => exact ih (h.act q)
end
end Go.Proofs.YtcnmajndackohaaGreatDoor
/-
  Plain: what a play has told at its end, as Orderly asks for it.
-/
namespace Go.Proofs.YtcnmajndackohaaGreatDoor

section
variable {s : Pst}
theorem rest_untold (now : Int) (p : Pk) : rest now (untold p) = rest now p := rfl
theorem todo_untold {x y : Ln} (hn : y.now = x.now) (e : y.pk.map untold = x.pk.map untold) : y.todo = x.todo := by
  unfold Ln.todo
  have h : ∀ (n : Int) (l : List Pk), sumOf (rest n) l = sumOf (rest n) (l.map untold) := fun n l => by rw [sumOf_map]; rfl
  rw [h, h x.now, e, hn]
theorem oth_untold {x y : Ln} (hn : y.now = x.now) (e : y.pk.map untold = x.pk.map untold) (h : y.oth) : x.oth := by
  obtain ⟨p, hp, hf, hs⟩ := h
  have : untold p ∈ x.pk.map untold := by rw [← e]; exact List.mem_map_of_mem hp
  obtain ⟨q, hq, eq⟩ := List.mem_map.1 this
  have e1 : (untold q).flow = (untold p).flow := by rw [eq]
  have e2 : (untold q).start = (untold p).start := by rw [eq]
  have e3 : (untold q).size = (untold p).size := by rw [eq]
  have e1' : q.flow = p.flow := e1
  have e2' : q.start = p.start := e2
  have e3' : q.size = p.size := e3
  exact ⟨q, hq, e1'.trans hf, by rw [e2', e3', ← hn]; exact hs⟩
theorem run_hundred (x : Ln) : ∃ n : Nat, (x.run 100).2 = x.ticks n ∧ (n : Int) = 100 := by
  refine ⟨Int.toNat 100, ?_, by decide⟩
  unfold Ln.run
  rw [if_neg (by decide)]
theorem runs_oth (h : Ors s) (hh : (s.runs 100).x.oth) : s.x.oth ∧ (s.runs 100).x.todo ≤ s.x.todo - 100 := by
  obtain ⟨B, o⟩ := h.od
  obtain ⟨n, e, hn⟩ := run_hundred s.x
  have hx : (s.runs 100).x = (s.x.run 100).2.gone.2 := rfl
  rw [e] at hx
  have hg : ((s.x.ticks n).gone.2).pk.map untold = (s.x.ticks n).pk.map untold := gone_untold _ _ _
  rw [hx] at hh ⊢
  have h1 := ticks_todo n o (oth_untold (x := s.x.ticks n) (y := (s.x.ticks n).gone.2) rfl hg hh)
  rw [todo_untold (x := s.x.ticks n) (y := (s.x.ticks n).gone.2) rfl hg]
  refine ⟨h1.1, ?_⟩
  have := h1.2
  omega
theorem idle_oth (h : Ors s) (hi : s.idle = true) : ¬ s.x.oth := by
  obtain ⟨B, o⟩ := h.od
  unfold Pst.idle at hi
  simp only [Bool.and_eq_true, beq_iff_eq, Bool.not_eq_true'] at hi
  obtain ⟨⟨_, h1⟩, h2⟩ := hi
  rintro ⟨p, hp, hf, hs⟩
  have hd := o.inv.idle h2 p hp
  unfold done at hd
  have hp0 : p.start < 0 := by omega
  have hdr : p.dropped = false := by
    rw [← Bool.not_eq_true]
    intro c
    have := (o.dz p hp c).1
    omega
  have : 0 < s.x.waiting (-1) := by
    unfold Ln.waiting
    exact List.countP_pos_iff.2 ⟨p, hp, by simp [hf, hp0, hdr]⟩
  omega
theorem drain_end : ∀ (k : Nat) {s : Pst}, Ors s → (¬ s.x.oth ∨ s.x.todo ≤ 100 * k) → ¬ (s.drain k).x.oth
  | 0, s, h, hc => by
    rcases hc with hc | hc
    · exact hc
    · obtain ⟨B, o⟩ := h.od
      intro c
      have := Ln.oth_off o c
      have hc' : s.x.todo ≤ 100 * ((0 : Nat) : Int) := hc
      omega
  | k + 1, s, h, hc => by
    unfold Pst.drain
    split
    · rename_i hi
      exact idle_oth (ors_run h 100).1 hi
    · refine drain_end k (ors_run h 100).1 ?_
      by_cases c : (s.runs 100).x.oth
      · right
        have h1 := runs_oth h c
        rcases hc with hc | hc
        · exact absurd h1.1 hc
        · have := h1.2
          have hc' : s.x.todo ≤ 100 * ((k + 1 : Nat) : Int) := hc
          omega
      · exact .inl c
theorem drain_ors : ∀ (k : Nat) {s : Pst}, Ors s → Ors (s.drain (k + 1)) ∧ Ended (s.drain (k + 1))
  | 0, s, h => by
    unfold Pst.drain
    split
    · exact ors_run h 100
    · exact ors_run h 100
  | k + 1, s, h => by
    have hr := ors_run h 100
    conv => unfold Pst.drain
    split
    · exact hr
    · exact drain_ors k hr.1
/-- What Orderly asks. -/
structure Ordy (s : Pst) : Prop where
  nx : ∀ g1 g g2, s.gone = g1 ++ g :: g2 → 0 ≤ g.ready ∧ g.ready ≤ g.start ∧ g.start < s.x.now ∧ 1 ≤ g.size ∧ g.size ≤ 8 ∧ -1 ≤ g.flow ∧ g.flow < (s.fl.length : Int) ∧ g.seq = ((g1.countP (ofk g.flow) : Nat) : Int)
  pr : ∀ g1 h g g2, s.gone = g1 ++ h :: g :: g2 → h.start + h.size ≤ g.start
  no : ∀ g ∈ s.gone, g.flow < 0 → s.other[g.seq.toNat]? = some g.size
  fl : ∀ g ∈ s.gone, 0 ≤ g.flow → ∃ l, s.sent[g.flow.toNat]? = some l ∧ l[g.seq.toNat]? = some g.size
  cf : ∀ g1 h g2 c g3, s.gone = g1 ++ h :: (g2 ++ c :: g3) → h.flow = c.flow → 0 ≤ c.flow → ∃ f, s.fl[c.flow.toNat]? = some f ∧ h.ready ≤ c.ready ∧ c.size + sumOf (szk c.flow) g2 + h.size ≤ f.am (c.ready - h.ready)
  c1 : ∀ c ∈ s.gone, 0 ≤ c.flow → ∃ f, s.fl[c.flow.toNat]? = some f ∧ c.size ≤ f.am 0
  al : s.gone.countP (ofk (-1)) = s.other.length
theorem countP_map_untold (k : Int) (l : List Pk) : (l.map untold).countP (ofk k) = l.countP (ofk k) := by rw [List.countP_map]; rfl
theorem sum_map_untold (k : Int) (l : List Pk) : sumOf (szk k) (l.map untold) = sumOf (szk k) l := by rw [sumOf_map]; rfl
theorem ordy_of (h : Ors s) (he : Ended s) (hno : ¬ s.x.oth) (hp : Pin s) : Ordy s := by
  obtain ⟨B, o⟩ := h.od
  obtain ⟨P1, P2, td, hg, hend⟩ := he
  have hB : B = s.gone.map untold ++ P2.map untold := by rw [hg, ← List.map_append, ← td.e, o.bgs]
  have hxl : s.x.fl.length = s.fl.length := by rw [← hp.fl, List.length_map]
  have at1 : ∀ g1 g g2, s.gone = g1 ++ g :: g2 → B = g1.map untold ++ untold g :: (g2.map untold ++ P2.map untold) := fun g1 g g2 e => by rw [hB, e]; simp
  have flk : ∀ g : Pk, 0 ≤ g.flow → g.flow.toNat < s.x.fl.length → ∃ st, s.x.fl[g.flow.toNat]? = some st ∧ s.fl[g.flow.toNat]? = some st.f := fun g _ hl => by
    refine ⟨s.x.fl[g.flow.toNat], List.getElem?_eq_getElem hl, ?_⟩
    rw [← hp.fl, List.getElem?_map, List.getElem?_eq_getElem hl]; rfl
  have own : ∀ g ∈ s.gone, 0 ≤ g.flow → g.flow.toNat < s.x.fl.length := fun g hgm h0 => by
    obtain ⟨p, hpm, e, _⟩ := o.mem (show untold g ∈ B by rw [hB]; exact List.mem_append_left _ (List.mem_map_of_mem hgm))
    have e1 : (untold g).flow = (untold p).flow := by rw [e]
    have e1' : g.flow = p.flow := e1
    have := o.inv.own p hpm (by omega)
    rw [e1']; exact this
  refine ⟨?_, ?_, ?_, ?_, ?_, ?_, ?_⟩
  · intro g1 g g2 e
    have eB := at1 g1 g g2 e
    obtain ⟨p, hpm, e0, h0⟩ := o.mem (show untold g ∈ B by rw [eB]; simp)
    have e1 : (untold g).flow = (untold p).flow := by rw [e0]
    have e2 : (untold g).start = (untold p).start := by rw [e0]
    have e3 : (untold g).ready = (untold p).ready := by rw [e0]
    have e4 : (untold g).size = (untold p).size := by rw [e0]
    have e1' : g.flow = p.flow := e1
    have e2' : g.start = p.start := e2
    have e3' : g.ready = p.ready := e3
    have e4' : g.size = p.size := e4
    have h1 := o.inv.st p hpm h0
    have h2 := o.inv.sz p hpm
    have h3 := o.seq eB
    rw [countP_map_untold] at h3
    have h3' : g.seq = ((g1.countP (ofk g.flow) : Nat) : Int) := h3
    have hflow : -1 ≤ p.flow ∧ p.flow < (s.fl.length : Int) := by
      rcases Int.lt_or_le p.flow 0 with c | c
      · have := (o.od p hpm c).1; omega
      · have := o.inv.own p hpm c; omega
    exact ⟨by omega, by omega, by omega, by omega, by omega, by omega, by omega, h3'⟩
  · intro g1 a g g2 e
    have eB := at1 g1 a (g :: g2) e
    exact o.bo (g1.map untold) (untold a) (untold g) (g2.map untold ++ P2.map untold) (by rw [eB]; simp)
  · intro g hgm h0
    obtain ⟨g1, g2, e⟩ := List.append_of_mem hgm
    obtain ⟨i, hi, hsz⟩ := o.size (at1 g1 g g2 e)
    have hi' : g.seq = (i : Int) := hi
    have hf : g.flow = -1 := by
      obtain ⟨p, hpm, e0, _⟩ := o.mem (show untold g ∈ B by rw [at1 g1 g g2 e]; simp)
      have e1 : (untold g).flow = (untold p).flow := by rw [e0]
      have e1' : g.flow = p.flow := e1
      rw [e1']
      exact (o.od p hpm (by omega)).1
    have hsz' : ((s.x.pk.filter (ofk g.flow)).map Pk.size)[i]? = some g.size := hsz
    rw [hi', Int.toNat_natCast, h.ot, ← hf]
    exact hsz'
  · intro g hgm h0
    obtain ⟨g1, g2, e⟩ := List.append_of_mem hgm
    obtain ⟨i, hi, hsz⟩ := o.size (at1 g1 g g2 e)
    have hi' : g.seq = (i : Int) := hi
    have hsz' : ((s.x.pk.filter (ofk g.flow)).map Pk.size)[i]? = some g.size := hsz
    have hl := own g hgm h0
    have hk : g.flow.toNat < s.sent.length := by rw [h.sl]; exact hl
    refine ⟨s.sent[g.flow.toNat], List.getElem?_eq_getElem hk, ?_⟩
    rw [h.se g.flow.toNat _ (List.getElem?_eq_getElem hk), hi', Int.toNat_natCast, Int.toNat_of_nonneg h0]
    exact hsz'
  · intro g1 a g2 c g3 e hk h0
    have hcm : c ∈ s.gone := by rw [e]; simp
    obtain ⟨st, hst, hfl⟩ := flk c h0 (own c hcm h0)
    have eB : B = g1.map untold ++ untold a :: (g2.map untold ++ untold c :: (g3.map untold ++ P2.map untold)) := by rw [hB, e]; simp
    have := o.conf eB hk (k := c.flow.toNat) (show c.flow = _ by omega) hst
    refine ⟨st.f, hfl, this.1, ?_⟩
    have h2 := this.2
    rw [sum_map_untold] at h2
    exact h2
  · intro c hcm h0
    obtain ⟨st, hst, hfl⟩ := flk c h0 (own c hcm h0)
    obtain ⟨g1, g2, e⟩ := List.append_of_mem hcm
    exact ⟨st.f, hfl, o.conf1 (at1 g1 c g2 e) (k := c.flow.toNat) (show c.flow = _ by omega) hst⟩
  · have h1 := congrArg List.length (o.fb (-1))
    rw [List.length_map, filter_stf (fun p hpm hf => by
      rcases Int.lt_or_le p.start 0 with c | c
      · exact absurd ⟨p, hpm, hf, .inl c⟩ hno
      · exact c)] at h1
    rw [h.ot, List.length_map, ← h1]
    show _ = (B.filter (ofk (-1))).length
    rw [← List.countP_eq_length_filter, hB, List.countP_append, countP_map_untold, countP_map_untold]
    have h2 : P2.countP (ofk (-1)) = 0 := by
      rw [List.countP_eq_zero]
      intro p hpm hf
      have hf' : p.flow = -1 := by simpa [ofk] using hf
      have hin : p ∈ s.x.bg := by rw [td.e]; exact List.mem_append_right _ hpm
      unfold Ln.bg at hin
      obtain ⟨i, _, hi⟩ := List.mem_filterMap.1 hin
      exact hno ⟨p, List.mem_of_getElem? hi, hf', .inr (hend p hpm)⟩
    omega
end
theorem ors_pst {L : List Fl} (h : ∀ f ∈ L, f.may) : Ors (pst L) := by
  refine ⟨⟨[], od_new h⟩, ⟨[], [], ⟨rfl, (fun p hp => by cases hp), (fun p hp => by cases hp), (fun p hp => by cases hp)⟩, rfl⟩, fun k l hk => ?_, rfl, ?_⟩
  · have : l ∈ (pst L).sent := List.mem_of_getElem? hk
    have := (pst_bnd L).se l this
    exact List.eq_nil_of_length_eq_zero (by omega)
  · rw [(pst_pin h).se, ← (pst_pin h).fl, List.length_map]
/-- At the end of a play. -/
theorem orderly_end {L : List Fl} (h : ∀ f ∈ L, f.may) (l : List Stp) : Ordy (((pst L).acts (l.take 100)).drain 100) ∧ Bnd (((pst L).acts (l.take 100)).drain 100) 200 ∧ Pin (((pst L).acts (l.take 100)).drain 100) := by
  have hl : (l.take 100).length ≤ 100 := by rw [List.length_take]; omega
  have hb := (acts_bnd (pst_bnd L) (l.take 100) (by omega)).mono (show 0 + (l.take 100).length ≤ 100 by omega)
  have hp := acts_pin (pst_pin h) (l.take 100)
  have ho := ors_acts (ors_pst h) (l.take 100)
  have hd := drain_ors 99 ho
  have hpd : ∀ (k : Nat) {s : Pst}, Pin s → Pin (s.drain k) := by
    intro k
    induction k with
    | zero => intro s hs; exact hs
    | succ k ih =>
      intro s hs
      unfold Pst.drain
      split
      · exact hs.runs 100
      · exact ih (hs.runs 100)
  have hno := drain_end 100 ho (.inr (by
    obtain ⟨B, o⟩ := ho.od
    have h1 := todo_le o
    have h2 := hb.x.pk
    omega))
  exact ⟨ordy_of hd.1 hd.2 hno (hpd 100 hp), drain_bnd hb 100 (by omega), hpd 100 hp⟩
end Go.Proofs.YtcnmajndackohaaGreatDoor
