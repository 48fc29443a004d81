import Derived.Test.YtcnmajndackohaaGreatDoorLateMg15
/-
  Plain: what is left, tick by tick; what began is known, what was told is told.
-/
namespace Go.Proofs.YtcnmajndackohaaGreatDoor

/-- What is left of the packets whose flow c tells. -/
def left (c : Int → Bool) (now : Int) (p : Pk) : Int := if c p.flow = true then rem now p else 0
def sumR (c : Int → Bool) (x : Ln) : Int := sumOf (left c x.now) x.pk
def took (c : Int → Bool) : Option Int → Int
  | none => 0
  | some f => if c f = true then 1 else 0
theorem took_none (c : Int → Bool) : took c none = 0 := rfl
theorem took_some (c : Int → Bool) (f : Int) : took c (some f) = if c f = true then 1 else 0 := rfl
theorem took_le (c : Int → Bool) (q : Option Int) : 0 ≤ took c q ∧ took c q ≤ 1 := by
  cases q with
  | none => rw [took_none]; decide
  | some f => rw [took_some]; split <;> decide
theorem modify_eq {α : Type} (l : List α) (f : α → α) (i : Nat) : (l.modify i f)[i]? = l[i]?.map f := by simp
theorem modify_ne {α : Type} (l : List α) (f : α → α) {i j : Nat} (h : i ≠ j) : (l.modify i f)[j]? = l[j]? := by
  rw [List.getElem?_modify]; simp [h]
theorem rem_still {now : Int} {p : Pk} (h : done now p) : rem (now + 1) p = rem now p := by
  unfold rem done at *
  by_cases g : p.start < 0
  · rw [if_pos g, if_pos g]
  · rw [if_neg g, if_neg g, if_neg (by omega), if_neg (by omega)]
theorem rem_under {now : Int} {p : Pk} (h0 : 0 ≤ p.start) (h1 : now < p.start + p.size) : rem (now + 1) p = rem now p - 1 := by
  have h2 : ¬ p.start < 0 := by omega
  simp only [rem, if_neg h2, if_pos h1]
  split <;> omega
theorem rem_beg {now : Int} {p : Pk} (hn : 0 ≤ now) (h0 : p.start < 0) (hs : 1 ≤ p.size) : rem (now + 1) (beg now p) = rem now p - 1 := by
  have e1 : (beg now p).start = now := rfl
  have e2 : (beg now p).size = p.size := rfl
  unfold rem
  rw [e1, e2, if_neg (by omega), if_pos h0]
  split <;> omega
theorem rem_nonneg {now : Int} {p : Pk} (h : 1 ≤ p.size) : 0 ≤ rem now p := by
  have := run_le_rem (now := now) h; omega
/-- What went in this tick. -/
theorem adv_went {x : Ln} (h : Lnv x) : ∃ q : Option Int, (∀ c, sumR c x.adv = sumR c x - took c q) ∧ (q = none → x.busy = false ∧ x.goes = none) ∧ (x.busy = true → ∃ p, x.last = some p ∧ q = some p.flow) ∧ x.adv.now = x.now + 1 := by
  refine adv_cases h (P := fun y => ∃ q : Option Int, (∀ c, sumR c y = sumR c x - took c q) ∧ (q = none → x.busy = false ∧ x.goes = none) ∧ (x.busy = true → ∃ p, x.last = some p ∧ q = some p.flow) ∧ y.now = x.now + 1) ?_ ?_ ?_
  · intro l1 p l2 hb e hl h0 h1 d1 d2
    refine ⟨some p.flow, fun c => ?_, (fun g => by cases g), fun _ => ⟨p, ?_, rfl⟩, rfl⟩
    · show sumOf (left c (x.now + 1)) x.pk = sumOf (left c x.now) x.pk - _
      rw [e]
      simp only [sumOf_append, sumOf]
      rw [sumOf_congr (l := l1) (g' := left c x.now) fun q hq => by unfold left; rw [rem_still (d1 q hq)], sumOf_congr (l := l2) (g' := left c x.now) fun q hq => by unfold left; rw [rem_still (d2 q hq)]]
      rw [took_some]
      unfold left
      split
      · rw [rem_under h0 h1]; omega
      · omega
    · unfold Ln.last
      rw [hl]
      simp only [Option.bind_some]
      rw [e, get_at]
  · intro hg hall
    refine ⟨none, fun c => ?_, fun _ => ⟨?_, hg⟩, fun hb => ?_, rfl⟩
    · show sumOf (left c (x.now + 1)) x.pk = sumOf (left c x.now) x.pk - _
      rw [sumOf_congr (g' := left c x.now) fun q hq => by unfold left; rw [rem_still (hall q hq)]]
      rw [took_none]; omega
    · cases hb : x.busy with
      | false => rfl
      | true =>
        obtain ⟨l1, p, l2, e, _, _, h0, h1, _⟩ := h.bsy hb
        have := hall p (by rw [e]; simp)
        unfold done at this; omega
    · obtain ⟨l1, p, l2, e, _, _, h0, h1, _⟩ := h.bsy hb
      have := hall p (by rw [e]; simp)
      unfold done at this; omega
  · intro l1 p l2 hg hall e he _
    refine ⟨some p.flow, fun c => ?_, (fun g => by cases g), fun hb => ?_, rfl⟩
    · show sumOf (left c (x.now + 1)) (l1 ++ beg x.now p :: l2) = sumOf (left c x.now) x.pk - _
      have hz := h.sz p (by rw [e]; simp)
      have d1 : ∀ q ∈ l1, done x.now q := fun q hq => hall q (by rw [e]; simp [hq])
      have d2 : ∀ q ∈ l2, done x.now q := fun q hq => hall q (by rw [e]; simp [hq])
      rw [e]
      simp only [sumOf_append, sumOf]
      rw [sumOf_congr (l := l1) (g' := left c x.now) fun q hq => by unfold left; rw [rem_still (d1 q hq)], sumOf_congr (l := l2) (g' := left c x.now) fun q hq => by unfold left; rw [rem_still (d2 q hq)]]
      rw [took_some]
      unfold left
      have ef : (beg x.now p).flow = p.flow := rfl
      rw [ef]
      split
      · rw [rem_beg h.n0 he.1 hz.1]; omega
      · omega
    · exfalso
      obtain ⟨l1', p', l2', e', _, _, h0, h1, _⟩ := h.bsy hb
      have := hall p' (by rw [e']; simp)
      unfold done at this; omega
theorem away_pk (x : Ln) : x.away.pk = x.pk ∧ x.away.now = x.now ∧ x.away.began = x.began := by
  unfold Ln.away; split <;> exact ⟨rfl, rfl, rfl⟩
theorem away_last (x : Ln) : x.away.last = x.last ∧ x.away.busy = x.busy := by
  obtain ⟨a, b, c⟩ := away_pk x
  have hl : x.away.last = x.last := by unfold Ln.last; rw [a, c]
  refine ⟨hl, ?_⟩
  unfold Ln.busy; rw [hl, b]
theorem tick_went {x : Ln} (h : Lnv x) : ∃ q : Option Int, (∀ c, sumR c x.tick = sumR c x - took c q) ∧ (q = none → x.busy = false ∧ x.away.goes = none) ∧ (x.busy = true → ∃ p, x.last = some p ∧ q = some p.flow) ∧ x.tick.now = x.now + 1 := by
  obtain ⟨q, h1, h2, h3, h4⟩ := adv_went h.away
  obtain ⟨a, b, _⟩ := away_pk x
  obtain ⟨l, m⟩ := away_last x
  refine ⟨q, fun c => ?_, fun e => ?_, fun e => ?_, ?_⟩
  · have := h1 c
    have e : sumR c x.away = sumR c x := by unfold sumR; rw [a, b]
    rw [e] at this; exact this
  · have := h2 e; rw [m] at this; exact this
  · rw [← l]; exact h3 (by rw [m]; exact e)
  · have : x.tick.now = x.away.now + 1 := h4
    rw [this, b]

/-- What a tick makes of each packet. -/
theorem tick_each {x : Ln} (h : Lnv x) {P Q : Pk → Prop} (hp : ∀ p ∈ x.pk, P p) (h1 : ∀ p, P p → Q p) (h2 : ∀ p, P p → El x.now p → Q (beg x.now p)) : ∀ p ∈ x.tick.pk, Q p := by
  rw [tick_adv]
  obtain ⟨a, b, _⟩ := away_pk x
  refine adv_cases h.away (P := fun y => ∀ p ∈ y.pk, Q p) ?_ ?_ ?_
  · intro _ _ _ _ _ _ _ _ _ _ p hp'
    exact h1 p (hp p (by rw [← a]; exact hp'))
  · intro _ _ p hp'
    exact h1 p (hp p (by rw [← a]; exact hp'))
  · intro l1 p l2 _ _ e he _ q hq
    rw [b] at he hq
    have hq' : q ∈ l1 ++ beg x.now p :: l2 := hq
    have mp : ∀ z ∈ l1 ++ p :: l2, P z := fun z hz => hp z (by rw [← a, e]; exact hz)
    rcases mem_beg hq' with rfl | hq'
    · exact h2 p (mp p (by simp)) he
    · exact h1 q (mp q hq')
/-- A packet stays, or begins. -/
theorem tick_some {x : Ln} (h : Lnv x) {P Q : Pk → Prop} (hp : ∃ p ∈ x.pk, P p) (h1 : ∀ p, P p → Q p) (h2 : ∀ p, P p → El x.now p → Q (beg x.now p)) : ∃ p ∈ x.tick.pk, Q p := by
  rw [tick_adv]
  obtain ⟨a, b, _⟩ := away_pk x
  obtain ⟨z, hz, pz⟩ := hp
  refine adv_cases h.away (P := fun y => ∃ p ∈ y.pk, Q p) ?_ ?_ ?_
  · intro _ _ _ _ _ _ _ _ _ _
    exact ⟨z, by show z ∈ x.away.pk; rw [a]; exact hz, h1 z pz⟩
  · intro _ _
    exact ⟨z, by show z ∈ x.away.pk; rw [a]; exact hz, h1 z pz⟩
  · intro l1 p l2 _ _ e he _
    rw [b] at he ⊢
    rw [a] at e
    rw [e] at hz
    rcases List.mem_append.1 hz with hz | hz
    · exact ⟨z, by simp [hz], h1 z pz⟩
    · rcases List.mem_cons.1 hz with rfl | hz
      · exact ⟨beg x.now z, by simp, h2 z pz he⟩
      · exact ⟨z, by simp [hz], h1 z pz⟩

/-- What has begun is known. -/
def Stb (x : Ln) : Prop := ∀ (i : Nat) p, x.pk[i]? = some p → 0 ≤ p.start → i ∈ x.began
theorem stb_new (l : List Fl) : Stb (Ln.new l) := fun i p h => by
  have : ([] : List Pk)[i]? = some p := h
  simp at this
theorem Stb.push {x : Ln} (h : Stb x) {p : Pk} (hs : p.start < 0) : Stb { x with pk := x.pk ++ [p] } := fun i q hq h0 => by
  rcases get_snoc hq with g | ⟨_, rfl⟩
  · exact h i q g h0
  · omega
theorem stb_send {x : Ln} (h : Stb x) (k size : Int) : Stb (x.send k size).2 := send_cases (P := Stb) h fun _ _ _ _ => h.push (show (-1 : Int) < 0 by decide)
theorem stb_other {x : Ln} (h : Stb x) (size : Int) : Stb (x.other size).2 := other_cases (P := Stb) h fun _ => h.push (show (-1 : Int) < 0 by decide)
theorem stb_away {x : Ln} (h : Stb x) : Stb x.away := by
  obtain ⟨a, _, c⟩ := away_pk x
  unfold Stb; rw [a, c]; exact h
theorem stb_tick {x : Ln} (h : Lnv x) (s : Stb x) : Stb x.tick := by
  rw [tick_adv]
  have s' := stb_away s
  refine adv_cases h.away (P := Stb) (fun _ _ _ _ _ _ _ _ _ _ => s') (fun _ _ => s') ?_
  intro l1 p l2 _ _ e _ _ i q hq h0
  have hq' : (l1 ++ beg x.away.now p :: l2)[i]? = some q := hq
  show i ∈ x.away.began ++ [l1.length]
  by_cases g : i = l1.length
  · simp [g]
  · refine List.mem_append.2 (.inl (s' i q ?_ h0))
    rw [e]
    rcases Nat.lt_or_ge i l1.length with k | k
    · rw [List.getElem?_append_left k] at hq' ⊢; exact hq'
    · rw [List.getElem?_append_right k] at hq' ⊢
      obtain ⟨j, hj⟩ : ∃ j, i - l1.length = j + 1 := ⟨i - l1.length - 1, by omega⟩
      rw [hj] at hq' ⊢; exact hq'
theorem get_untold {pk pk' : List Pk} (e : pk'.map untold = pk.map untold) {i : Nat} {p : Pk} (h : pk'[i]? = some p) : ∃ q, pk[i]? = some q ∧ untold q = untold p := by
  have : (pk'.map untold)[i]? = some (untold p) := by rw [List.getElem?_map, h]; rfl
  rw [e, List.getElem?_map] at this
  exact Option.map_eq_some_iff.1 this
theorem stb_gone {x : Ln} (s : Stb x) : Stb x.gone.2 := fun i p hp h0 => by
  obtain ⟨q, hq, e⟩ := get_untold (gone_untold x.now x.began x.pk) hp
  refine s i q hq ?_
  have : (untold q).start = (untold p).start := by rw [e]
  rw [show q.start = p.start from this]; exact h0
theorem stb_torn {x : Ln} (s : Stb x) (fl : List Stt) (k : Int) : Stb { x with fl := fl, pk := x.pk.map (drp x.now k) } := fun i p hp h0 => by
  have hp' : (x.pk.map (drp x.now k))[i]? = some p := hp
  rw [List.getElem?_map] at hp'
  obtain ⟨q, hq, rfl⟩ := Option.map_eq_some_iff.1 hp'
  exact s i q hq (by rw [(same_drp (now := x.now) k).st] at h0; exact h0)
theorem stb_setup {x : Ln} (s : Stb x) (f : Fl) : Stb (x.setup f).2 := setup_cases (P := Stb) s fun _ _ => s
theorem stb_teardown {x : Ln} (s : Stb x) (k : Int) : Stb (x.teardown k).2 := teardown_cases (P := Stb) s fun _ _ _ => stb_away (stb_torn s _ k)

/-- What was told is in the list. -/
def Tg (x : Ln) (G : List Pk) : Prop := ∀ p ∈ x.pk, p.told = true → 0 ≤ p.start ∧ ∃ g ∈ G, untold g = untold p
theorem tg_tick {x : Ln} {G : List Pk} (h : Lnv x) (t : Tg x G) : Tg x.tick G :=
  tick_each h (P := fun p => p.told = true → 0 ≤ p.start ∧ ∃ g ∈ G, untold g = untold p) t (fun _ => id) fun p hp he ht => by
    have := (hp ht).1
    have := he.1
    omega
theorem tg_gone_aux (now : Int) : ∀ (l : List Nat) (pk : List Pk) (G : List Pk), (∀ i ∈ l, ∃ p, pk[i]? = some p ∧ 0 ≤ p.start) → (∀ p ∈ pk, p.told = true → 0 ≤ p.start ∧ ∃ g ∈ G, untold g = untold p) → ∀ p ∈ (goneL now l pk).2, p.told = true → 0 ≤ p.start ∧ ∃ g ∈ G ++ (goneL now l pk).1, untold g = untold p
  | [], _, G, _, h, p, hp, ht => by
    obtain ⟨a, g, hg, e⟩ := h p hp ht
    exact ⟨a, g, by simp [goneL, hg], e⟩
  | i :: l, pk, G, hb, h, p, hp, ht => by
    have hb' : ∀ j ∈ l, ∃ p, pk[j]? = some p ∧ 0 ≤ p.start := fun j hj => hb j (List.mem_cons_of_mem _ hj)
    obtain ⟨z, hz, z0⟩ := hb i (List.mem_cons_self ..)
    have hd : goneL now (i :: l) pk = if fresh1 now z = true then (z :: (goneL now l (pk.modify i tell)).1, (goneL now l (pk.modify i tell)).2) else goneL now l pk := by
      show (match pk[i]? with
        | none => goneL now l pk
        | some p => if fresh1 now p = true then (p :: (goneL now l (pk.modify i tell)).1, (goneL now l (pk.modify i tell)).2) else goneL now l pk) = _
      rw [hz]
    rw [hd] at hp ⊢
    by_cases hf : fresh1 now z = true
    · rw [if_pos hf] at hp ⊢
      have hb2 : ∀ j ∈ l, ∃ p, (pk.modify i tell)[j]? = some p ∧ 0 ≤ p.start := fun j hj => by
        obtain ⟨y, hy, y0⟩ := hb' j hj
        have e : ((pk.modify i tell).map untold)[j]? = some (untold y) := by rw [untold_modify, List.getElem?_map, hy]; rfl
        rw [List.getElem?_map] at e
        obtain ⟨v, hv, ev⟩ := Option.map_eq_some_iff.1 e
        refine ⟨v, hv, ?_⟩
        have : (untold v).start = (untold y).start := by rw [ev]
        rw [show v.start = y.start from this]; exact y0
      have h2 : ∀ q ∈ pk.modify i tell, q.told = true → 0 ≤ q.start ∧ ∃ g ∈ G ++ [z], untold g = untold q := fun q hq hqt => by
        obtain ⟨j, hj⟩ := List.mem_iff_getElem?.1 hq
        by_cases e : i = j
        · subst e
          rw [modify_eq, hz] at hj
          obtain rfl : tell z = q := Option.some.inj hj
          exact ⟨z0, z, by simp, rfl⟩
        · rw [modify_ne _ _ e] at hj
          obtain ⟨a, g, hg, eg⟩ := h q (List.mem_of_getElem? hj) hqt
          exact ⟨a, g, by simp [hg], eg⟩
      obtain ⟨a, g, hg, e⟩ := tg_gone_aux now l (pk.modify i tell) (G ++ [z]) hb2 h2 p hp ht
      refine ⟨a, g, ?_, e⟩
      simpa using hg
    · rw [if_neg hf] at hp ⊢
      exact tg_gone_aux now l pk G hb' h p hp ht
theorem tg_gone {x : Ln} {G : List Pk} (h : Lnv x) (t : Tg x G) : Tg x.gone.2 (G ++ x.gone.1) := tg_gone_aux x.now x.began x.pk G h.bg t
theorem told_stays (now : Int) : ∀ (l : List Nat) (pk : List Pk) (i : Nat) (p : Pk), pk[i]? = some p → p.told = true → ∃ q, (goneL now l pk).2[i]? = some q ∧ q.told = true
  | [], _, i, p, h, ht => ⟨p, h, ht⟩
  | j :: l, pk, i, p, h, ht => by
    unfold goneL
    split
    · exact told_stays now l pk i p h ht
    · split
      · show ∃ q, (goneL now l (pk.modify j tell)).2[i]? = some q ∧ q.told = true
        by_cases e : j = i
        · subst e
          exact told_stays now l _ j (tell p) (by rw [modify_eq, h]; rfl) rfl
        · exact told_stays now l _ i p (by rw [modify_ne _ _ e]; exact h) ht
      · exact told_stays now l pk i p h ht
/-- Behind Gone all that has ended is told. -/
theorem told_all (now : Int) : ∀ (l : List Nat) (pk : List Pk) (i : Nat) (p : Pk), i ∈ l → pk[i]? = some p → p.start + p.size ≤ now → ∃ q, (goneL now l pk).2[i]? = some q ∧ q.told = true
  | [], _, i, p, hi, _, _ => by cases hi
  | j :: l, pk, i, p, hi, h, hd => by
    by_cases e : j = i
    · subst e
      unfold goneL
      rw [h]
      simp only
      split
      · show ∃ q, (goneL now l (pk.modify j tell)).2[j]? = some q ∧ q.told = true
        exact told_stays now l _ j (tell p) (by rw [modify_eq, h]; rfl) rfl
      · rename_i hf
        refine told_stays now l pk j p h ?_
        unfold fresh1 at hf
        cases ht : p.told with
        | true => rfl
        | false => exact absurd (by rw [ht]; simpa using hd) hf
    · have hi' : i ∈ l := by
        rcases List.mem_cons.1 hi with g | g
        · exact absurd g.symm e
        · exact g
      unfold goneL
      split
      · exact told_all now l pk i p hi' h hd
      · split
        · show ∃ q, (goneL now l (pk.modify j tell)).2[i]? = some q ∧ q.told = true
          exact told_all now l _ i p hi' (by rw [modify_ne _ _ e]; exact h) hd
        · exact told_all now l pk i p hi' h hd
/-- Behind Gone all that has ended is in the list. -/
theorem gone_all {x : Ln} {G : List Pk} (h : Lnv x) (s : Stb x) (t : Tg x G) : ∀ p ∈ x.gone.2.pk, 0 ≤ p.start → p.start + p.size ≤ x.now → ∃ g ∈ G ++ x.gone.1, untold g = untold p := by
  intro p hp h0 h1
  obtain ⟨i, hi⟩ := List.mem_iff_getElem?.1 hp
  obtain ⟨q, hq, e⟩ := get_untold (gone_untold x.now x.began x.pk) hi
  have e1 : q.start = p.start := by have : (untold q).start = (untold p).start := by rw [e]
                                    exact this
  have e2 : q.size = p.size := by have : (untold q).size = (untold p).size := by rw [e]
                                  exact this
  obtain ⟨z, hz, zt⟩ := told_all x.now x.began x.pk i q (s i q hq (by omega)) hq (by omega)
  obtain rfl : z = p := Option.some.inj (hz.symm.trans hi)
  exact (tg_gone h t z hp zt).2
end Go.Proofs.YtcnmajndackohaaGreatDoor
/-
  Plain: where flows do not fit, with the least violation t: what is brought at once is late.
-/
namespace Go.Proofs.YtcnmajndackohaaGreatDoor

def isF (k : Int) : Bool := decide (0 ≤ k)
def anyF (_ : Int) : Bool := true
/-- The line behind the bringing, tick by tick. -/
structure Lz (t S : Int) (x : Ln) : Prop where
  inv : Lnv x
  ps : ∀ p ∈ x.pk, p.dropped = false ∧ 0 ≤ p.ready ∧ p.ready ≤ 1301 ∧ (0 ≤ p.flow → p.ready + dueOf x.fl p.flow ≤ t + 1)
  early : x.now ≤ 8 → sumR isF x = S ∧ ∃ p, x.last = some p ∧ p.start = 0 ∧ p.size = 8 ∧ p.flow < 0
  mid : 8 ≤ x.now → S - (x.now - 8) ≤ sumR isF x
  late : t + 1 ≤ x.now → ∃ p ∈ x.pk, 0 ≤ p.flow ∧ (p.start < 0 ∨ t + 1 < p.start + p.size)
  all0 : sumR anyF x ≤ 248
  all1 : 1301 ≤ x.now → sumR anyF x ≤ 0 ∨ sumR anyF x ≤ 248 - (x.now - 1301)
theorem adv_fl (x : Ln) : x.adv.fl = x.fl := by
  unfold Ln.adv Ln.begins
  split
  · rfl
  · split <;> rfl
theorem tick_due (x : Ln) (k : Int) : dueOf x.tick.fl k = dueOf x.fl k := by
  rw [tick_adv, adv_fl]
  unfold Ln.away
  split
  · rfl
  · exact due_gone x.fl k
theorem tick_last {x : Ln} (h : x.busy = true) : x.tick.last = x.last := by
  obtain ⟨a, b⟩ := away_last x
  rw [tick_adv]
  have e : x.away.adv = { x.away with now := x.away.now + 1 } := by unfold Ln.adv Ln.begins; rw [if_pos (by rw [b]; exact h)]
  rw [e]
  exact a
theorem left_pos {c : Int → Bool} {now : Int} {p : Pk} (h : 0 < left c now p) : c p.flow = true ∧ 0 < rem now p := by
  unfold left at h
  split at h
  · rename_i g; exact ⟨g, h⟩
  · omega
theorem rem_pos {now : Int} {p : Pk} (h : 0 < rem now p) : p.start < 0 ∨ now < p.start + p.size := by
  unfold rem at h
  split at h
  · rename_i g; exact .inl g
  · split at h
    · rename_i g; exact .inr g
    · omega
theorem Lz.tick {t S : Int} {x : Ln} (hS : 0 < S) (ht : t < S + 7) (z : Lz t S x) : Lz t S x.tick := by
  have h := z.inv
  obtain ⟨q, w1, w2, w3, w4⟩ := tick_went h
  have hb : x.now < 8 → x.busy = true ∧ took isF q = 0 := fun g => by
    obtain ⟨_, p, hp, p0, p8, pf⟩ := z.early (by omega)
    have e : x.busy = true := by unfold Ln.busy; rw [hp]; simp only [decide_eq_true_eq]; omega
    obtain ⟨p', hp', rfl⟩ := w3 e
    obtain rfl : p = p' := Option.some.inj (hp.symm.trans hp')
    refine ⟨e, ?_⟩
    rw [took_some, if_neg]
    unfold isF; simp only [decide_eq_true_eq]; omega
  have early' : x.tick.now ≤ 8 → sumR isF x.tick = S ∧ ∃ p, x.tick.last = some p ∧ p.start = 0 ∧ p.size = 8 ∧ p.flow < 0 := fun g => by
    rw [w4] at g
    obtain ⟨e, k⟩ := hb (by omega)
    obtain ⟨a, b⟩ := z.early (by omega)
    rw [w1, k, a, tick_last e]
    exact ⟨by omega, b⟩
  have mid' : 8 ≤ x.tick.now → S - (x.tick.now - 8) ≤ sumR isF x.tick := fun g => by
    rw [w4] at g ⊢
    have := took_le isF q
    by_cases e : x.now = 7
    · have := (early' (by omega)).1; omega
    · have := z.mid (by omega)
      rw [w1]; omega
  refine ⟨h.tick, ?_, early', mid', ?_, ?_, ?_⟩
  · refine tick_each h z.ps ?_ ?_
    · intro p hp; rw [tick_due]; exact hp
    · intro p hp _
      show p.dropped = false ∧ 0 ≤ p.ready ∧ p.ready ≤ 1301 ∧ (0 ≤ p.flow → p.ready + dueOf x.tick.fl p.flow ≤ t + 1)
      rw [tick_due]; exact hp
  · intro g
    rw [w4] at g
    by_cases e : t + 1 ≤ x.now
    · obtain ⟨p, hp, k1, k2⟩ := z.late e
      refine tick_some h (P := fun p => 1 ≤ p.size ∧ 0 ≤ p.flow ∧ (p.start < 0 ∨ t + 1 < p.start + p.size)) ⟨p, hp, (h.sz p hp).1, k1, k2⟩ (fun _ k => k.2) ?_
      intro p hp he
      refine ⟨hp.2.1, .inr ?_⟩
      show t + 1 < x.now + p.size
      have := hp.1
      omega
    · have hF : 0 < sumR isF x.tick := by
        by_cases k : x.tick.now ≤ 8
        · rw [(early' k).1]; exact hS
        · have := mid' (by omega)
          rw [w4] at this
          omega
      obtain ⟨p, hp, hpos⟩ := sumOf_pos hF
      obtain ⟨c1, c2⟩ := left_pos hpos
      refine ⟨p, hp, by unfold isF at c1; simpa using c1, ?_⟩
      rcases rem_pos c2 with k | k
      · exact .inl k
      · right; rw [w4] at k; omega
  · rw [w1]; have := took_le anyF q; have := z.all0; omega
  · intro g
    rw [w4] at g ⊢
    rw [w1]
    have k := took_le anyF q
    by_cases e : 1301 ≤ x.now
    · rcases z.all1 e with a | a
      · left; omega
      · cases q with
        | some f =>
          right
          have : took anyF (some f) = 1 := rfl
          omega
        | none =>
          left
          rw [took_none]
          obtain ⟨b1, b2⟩ := w2 rfl
          have : sumR anyF x = 0 := by
            refine sumOf_zero fun p hp => ?_
            obtain ⟨p1, p2, p3, _⟩ := z.ps p hp
            have hd := h.idle b1 p hp
            have hs : ¬ p.start < 0 := fun hs => by
              have he : El x.now p := ⟨hs, p1, p2, by omega⟩
              obtain ⟨a1, a2, _⟩ := away_pk x
              unfold Ln.goes at b2
              split at b2
              · cases b2
              · rename_i n1
                have m : p ∈ x.away.pk := by rw [a1]; exact hp
                by_cases c : 0 ≤ p.flow
                · have := first_none n1 p m
                  rw [(elB_iff _ _ _).2 ⟨by rw [a2]; exact he, by simp [c]⟩] at this
                  cases this
                · have := first_none b2 p m
                  rw [(elB_iff _ _ _).2 ⟨by rw [a2]; exact he, by simp [c]⟩] at this
                  cases this
            unfold left anyF rem
            unfold done at hd
            rw [if_pos rfl, if_neg hs, if_neg (by omega)]
          omega
    · right
      have := z.all0
      omega
end Go.Proofs.YtcnmajndackohaaGreatDoor
/-
  Plain: the bringing itself, and the end: something that Gone told was late.
-/
namespace Go.Proofs.YtcnmajndackohaaGreatDoor

theorem ut_flow {p q : Pk} (h : untold q = untold p) : q.flow = p.flow := by have := congrArg Pk.flow h; exact this
theorem ut_seq {p q : Pk} (h : untold q = untold p) : q.seq = p.seq := by have := congrArg Pk.seq h; exact this
theorem ut_size {p q : Pk} (h : untold q = untold p) : q.size = p.size := by have := congrArg Pk.size h; exact this
theorem ut_ready {p q : Pk} (h : untold q = untold p) : q.ready = p.ready := by have := congrArg Pk.ready h; exact this
theorem ut_start {p q : Pk} (h : untold q = untold p) : q.start = p.start := by have := congrArg Pk.start h; exact this
theorem ut_dropped {p q : Pk} (h : untold q = untold p) : q.dropped = p.dropped := by have := congrArg Pk.dropped h; exact this
theorem mem_untold {pk pk' : List Pk} (e : pk'.map untold = pk.map untold) {p : Pk} (h : p ∈ pk') : ∃ q ∈ pk, untold q = untold p := by
  have : untold p ∈ pk.map untold := by rw [← e]; exact List.mem_map_of_mem h
  exact List.mem_map.1 this
theorem sum_untold {pk pk' : List Pk} (e : pk'.map untold = pk.map untold) (c : Int → Bool) (now : Int) : sumOf (left c now) pk' = sumOf (left c now) pk := by
  have a : sumOf (left c now) (pk'.map untold) = sumOf (left c now) (pk.map untold) := by rw [e]
  rw [sumOf_map, sumOf_map] at a
  exact a
theorem last_untold {x y : Ln} (hb : y.began = x.began) (e : y.pk.map untold = x.pk.map untold) {p : Pk} (h : x.last = some p) : ∃ q, y.last = some q ∧ untold q = untold p := by
  unfold Ln.last at h ⊢
  rw [hb]
  cases hl : x.began.getLast? with
  | none => rw [hl] at h; cases h
  | some i =>
    rw [hl] at h
    simp only [Option.bind_some] at h ⊢
    exact get_untold e.symm h
theorem Lz.gone {t S : Int} {x : Ln} (z : Lz t S x) : Lz t S x.gone.2 := by
  have e := gone_untold x.now x.began x.pk
  refine ⟨z.inv.gone, ?_, ?_, ?_, ?_, ?_, ?_⟩
  · intro p hp
    obtain ⟨q, hq, eq⟩ := mem_untold e hp
    have := z.ps q hq
    have e1 : q.flow = p.flow := ut_flow eq
    have e2 : q.dropped = p.dropped := ut_dropped eq
    have e3 : q.ready = p.ready := ut_ready eq
    rw [e1, e2, e3] at this
    exact this
  · intro g
    obtain ⟨a, p, hp, b⟩ := z.early g
    refine ⟨(sum_untold e isF x.now).trans a, ?_⟩
    obtain ⟨q, hq, eq⟩ := last_untold (x := x) (y := x.gone.2) rfl e hp
    have e1 : q.flow = p.flow := ut_flow eq
    have e2 : q.start = p.start := ut_start eq
    have e3 : q.size = p.size := ut_size eq
    exact ⟨q, hq, by rw [e2]; exact b.1, by rw [e3]; exact b.2.1, by rw [e1]; exact b.2.2⟩
  · intro g
    have := z.mid g
    rw [show sumR isF x.gone.2 = sumR isF x from sum_untold e isF x.now]; exact this
  · intro g
    obtain ⟨p, hp, k1, k2⟩ := z.late g
    obtain ⟨q, hq, eq⟩ := mem_untold e.symm hp
    have e1 : q.flow = p.flow := ut_flow eq
    have e2 : q.start = p.start := ut_start eq
    have e3 : q.size = p.size := ut_size eq
    exact ⟨q, hq, by rw [e1]; exact k1, by rw [e2, e3]; exact k2⟩
  · rw [show sumR anyF x.gone.2 = sumR anyF x from sum_untold e anyF x.now]; exact z.all0
  · intro g
    rw [show sumR anyF x.gone.2 = sumR anyF x from sum_untold e anyF x.now]; exact z.all1 g
theorem Lz.ticks {t S : Int} {x : Ln} (hS : 0 < S) (ht : t < S + 7) (z : Lz t S x) (n : Nat) : Lz t S (x.ticks n) := by
  induction n generalizing x with
  | zero => exact z
  | succ n ih => exact ih (z.tick hS ht)
theorem tick_now {x : Ln} (h : Lnv x) : x.tick.now = x.now + 1 := by
  obtain ⟨_, _, _, _, e⟩ := tick_went h; exact e
theorem ticks_now {x : Ln} (h : Lnv x) (n : Nat) : (x.ticks n).now = x.now + n := by
  induction n generalizing x with
  | zero => show x.now = x.now + (0 : Nat); omega
  | succ n ih =>
    show (x.tick.ticks n).now = _
    rw [ih h.tick, tick_now h]; omega
theorem stb_ticks {x : Ln} (h : Lnv x) (s : Stb x) (n : Nat) : Stb (x.ticks n) := by
  induction n generalizing x with
  | zero => exact s
  | succ n ih => exact ih h.tick (stb_tick h s)
theorem tg_ticks {x : Ln} {G : List Pk} (h : Lnv x) (s : Tg x G) (n : Nat) : Tg (x.ticks n) G := by
  induction n generalizing x with
  | zero => exact s
  | succ n ih => exact ih h.tick (tg_tick h s)

/-- The end: all has ended, and Gone has told it. -/
theorem late_end {t S : Int} {x : Ln} {G : List Pk} (hS : 0 < S) (ht : t < S + 7) (z : Lz t S x) (hall : ∀ p ∈ x.pk, 0 ≤ p.start ∧ p.start + p.size ≤ x.now)
    (hG : ∀ p ∈ x.pk, 0 ≤ p.start → p.start + p.size ≤ x.now → ∃ g ∈ G, untold g = untold p) : ∃ g ∈ G, 0 ≤ g.flow ∧ g.ready + dueOf x.fl g.flow < g.start + g.size := by
  have hF : sumR isF x = 0 := by
    refine sumOf_zero fun p hp => ?_
    have := hall p hp
    unfold left rem
    split
    · rw [if_neg (by omega), if_neg (by omega)]
    · rfl
  have hnow : t + 1 ≤ x.now := by
    by_cases g : t + 1 ≤ x.now
    · exact g
    · exfalso
      by_cases k : x.now ≤ 8
      · have := (z.early k).1; omega
      · have := z.mid (by omega); omega
  obtain ⟨p, hp, k1, k2⟩ := z.late hnow
  have ha := hall p hp
  obtain ⟨g, hg, e⟩ := hG p hp ha.1 ha.2
  have hps := (z.ps p hp).2.2.2 k1
  have e1 : g.flow = p.flow := ut_flow e
  have e2 : g.start = p.start := ut_start e
  have e3 : g.size = p.size := ut_size e
  have e4 : g.ready = p.ready := ut_ready e
  refine ⟨g, hg, by rw [e1]; exact k1, ?_⟩
  rw [e1, e2, e3, e4]
  omega
/-- Nothing is left. -/
theorem all_ended {x : Ln} (h : Lnv x) (hr : sumR anyF x ≤ 0) : ∀ p ∈ x.pk, 0 ≤ p.start ∧ p.start + p.size ≤ x.now := by
  intro p hp
  have a := sumOf_ge_mem (g := left anyF x.now) (l := x.pk) (fun q hq => by unfold left; split <;> first | exact rem_nonneg (h.sz q hq).1 | decide) hp
  have b : left anyF x.now p = rem x.now p := rfl
  have c := (h.sz p hp).1
  have d : rem x.now p ≤ 0 := by unfold sumR at hr; omega
  unfold rem at d
  split at d
  · omega
  · split at d <;> omega
/-- Nothing waits, and nothing is under way. -/
theorem all_told {x : Ln} (h : Lnv x) (hd : ∀ p ∈ x.pk, p.dropped = false) (hf : ∀ p ∈ x.pk, -1 ≤ p.flow) (hw : ∀ k : Nat, k < x.fl.length → x.waiting k = 0) (ho : x.waiting (-1) = 0) (hb : x.busy = false) : ∀ p ∈ x.pk, 0 ≤ p.start ∧ p.start + p.size ≤ x.now := by
  intro p hp
  have hdn := h.idle hb p hp
  have hs : ¬ p.start < 0 := fun hs => by
    have key : ∀ k : Int, p.flow = k → x.waiting k = 0 → False := fun k e hk => by
      unfold Ln.waiting at hk
      have := List.countP_eq_zero.1 hk p hp
      simp [e, hs, hd p hp] at this
    by_cases c : 0 ≤ p.flow
    · exact key p.flow rfl (by have := hw p.flow.toNat (h.own p hp c); rwa [Int.toNat_of_nonneg c] at this)
    · exact key (-1) (by have := hf p hp; omega) ho
  unfold done at hdn
  omega

/-- The line that Late begins with: a packet of none is under way. -/
def p0 : Pk := ⟨-1, 0, 8, 0, 0, false, false⟩
theorem gone1_live (l : List Fl) : (l.map fun f => (⟨f, 0⟩ : Stt)).map gone1 = l.map fun f => ⟨f, 0⟩ := by
  rw [List.map_map]; rfl
theorem late_start (l : List Fl) : (Ln.new l).other 8 = (0, ⟨0, l.map fun f => ⟨f, 0⟩, [⟨-1, 0, 8, 0, -1, false, false⟩], []⟩) := rfl
theorem late_one (l : List Fl) : (Ln.run ⟨0, l.map fun f => ⟨f, 0⟩, [⟨-1, 0, 8, 0, -1, false, false⟩], []⟩ 1) = (0, ⟨1, l.map fun f => ⟨f, 0⟩, [p0], [0]⟩) := by
  have e : Ln.tick ⟨0, l.map fun f => ⟨f, 0⟩, [⟨-1, 0, 8, 0, -1, false, false⟩], []⟩ = ⟨1, (l.map fun f => (⟨f, 0⟩ : Stt)).map gone1, [p0], [0]⟩ := rfl
  rw [gone1_live] at e
  show ((0 : Int), Ln.tick _) = _
  rw [e]
theorem late_gone (l : List Fl) : (Ln.gone ⟨1, l.map fun f => ⟨f, 0⟩, [p0], [0]⟩) = ([], ⟨1, l.map fun f => ⟨f, 0⟩, [p0], [0]⟩) := rfl

/-- The bringing: the flows ahead of i are through, and k packets of the i-th. -/
structure Snd (t : Int) (l : List Fl) (x : Ln) (i k : Nat) : Prop where
  inv : Lnv x
  stb : Stb x
  now : x.now = 1
  fl : x.fl = l.map fun f => ⟨f, 0⟩
  beg : x.began = [0]
  us : ∃ us, x.pk = p0 :: us ∧ (us.length : Int) = tot t (l.take i) + k ∧ ∀ u ∈ us, u.start = -1 ∧ u.dropped = false ∧ u.told = false ∧ u.size = 1 ∧ 0 ≤ u.flow ∧ u.flow ≤ i ∧ 1 ≤ u.ready ∧ ∃ f, l[u.flow.toNat]? = some f ∧ u.ready + f.d ≤ t + 1
  un : ∀ f, l[i]? = some f → Uns f i (x.pk.map Pk.sk).reverse k
theorem snd_start {t : Int} {l : List Fl} (hm : ∀ f ∈ l, f.may) : Snd t l ⟨1, l.map fun f => ⟨f, 0⟩, [p0], [0]⟩ 0 0 := by
  have e1 := late_start l
  have e2 := late_one l
  have h1 : Lnv ((Ln.new l).other 8).2 := (lnv_new hm).other 8
  have s1 : Stb ((Ln.new l).other 8).2 := stb_other (stb_new l) 8
  rw [e1] at h1 s1
  have h2 := h1.tick
  have s2 := stb_tick h1 s1
  have e : Ln.tick ⟨0, l.map fun f => ⟨f, 0⟩, [⟨-1, 0, 8, 0, -1, false, false⟩], []⟩ = ⟨1, l.map fun f => ⟨f, 0⟩, [p0], [0]⟩ := congrArg Prod.snd e2
  rw [e] at h2 s2
  refine ⟨h2, s2, rfl, rfl, rfl, ⟨[], rfl, by simp [tot], fun u hu => by cases hu⟩, fun f _ => ?_⟩
  refine uns_none fun x hx => ?_
  have : x = p0.sk := by simpa using hx
  rw [this]
  show (-1 : Int) ≠ ((0 : Nat) : Int)
  decide
theorem uns_count {f : Fl} {k : Int} : ∀ {l : List Sk} {m : Nat}, Uns f k l m → l.countP (fun q => decide (q.flow = k)) = m
  | [], m, h => by have : m = 0 := h; rw [this]; rfl
  | q :: l, m, h => by
    unfold Uns at h
    by_cases g : q.flow = k
    · rw [if_pos g] at h
      obtain ⟨m', rfl, _, _, h'⟩ := h
      rw [List.countP_cons_of_pos (by simpa using g), uns_count h']
    · rw [if_neg g] at h
      rw [List.countP_cons_of_neg (by simpa using g), uns_count h]
theorem countP_le {α : Type} {p q : α → Bool} (h : ∀ x, p x = true → q x = true) : ∀ l : List α, l.countP p ≤ l.countP q
  | [] => Nat.le_refl _
  | x :: l => by
    have ih := countP_le h l
    by_cases g : p x = true
    · rw [List.countP_cons_of_pos g, List.countP_cons_of_pos (h x g)]; omega
    · rw [List.countP_cons_of_neg g]
      by_cases k : q x = true
      · rw [List.countP_cons_of_pos k]; omega
      · rw [List.countP_cons_of_neg k]; exact ih
theorem uns_cons {f : Fl} {k : Int} {l : List Sk} {m : Nat} {q : Sk} (hk : q.flow = k) (hs : q.size = 1) (hu : Un f ((m + 1 : Nat) : Int) q.ready) (h : Uns f k l m) : Uns f k (q :: l) (m + 1) := by
  unfold Uns; rw [if_pos hk]; exact ⟨m, rfl, hs, hu, h⟩
theorem snd_send {t : Int} {l : List Fl} {x : Ln} {i k : Nat} {f : Fl} (s : Snd t l x i k) (hi : l[i]? = some f) (hk : (k : Int) + 1 ≤ f.e t) (h40 : k < 40) :
    ∃ x', x.send i 1 = (0, x') ∧ Snd t l x' i (k + 1) := by
  have hst : x.fl[i]? = some ⟨f, 0⟩ := by rw [s.fl, List.getElem?_map, hi]; rfl
  have ha : x.at? i = some ⟨f, 0⟩ := by unfold Ln.at?; rw [if_pos (by omega), Int.toNat_natCast]; exact hst
  have hm : f.may := s.inv.may ⟨f, 0⟩ (List.mem_of_getElem? hst)
  have hs2 := hm.s0
  have hun := s.un f hi
  have hw : ¬ 40 ≤ x.waiting i := by
    have c := uns_count hun
    rw [List.countP_reverse, List.countP_map] at c
    have d : x.waiting i ≤ x.pk.countP ((fun q => decide (q.flow = (i : Int))) ∘ Pk.sk) := countP_le (fun p hp => by
      simp only [Bool.and_eq_true] at hp
      exact hp.1.1) x.pk
    omega
  have e : x.send i 1 = (0, x.push i 1 (x.readyAt f i 1)) := by
    unfold Ln.send
    rw [ha]
    simp only
    rw [if_neg (by simp), if_neg (by omega), if_neg hw]
  have hr : Un f ((k + 1 : Nat) : Int) (x.readyAt f i 1) := unit_ready hm (T := t - f.d) s.now hun (by unfold Fl.e at hk; exact hk)
  refine ⟨_, e, ?_⟩
  have i1 := s.inv.send i 1
  have s1 := stb_send s.stb i 1
  rw [e] at i1 s1
  obtain ⟨us, hu1, hu2, hu3⟩ := s.us
  refine ⟨i1, s1, s.now, s.fl, s.beg, ?_, ?_⟩
  · refine ⟨us ++ [⟨i, x.seqOf i, 1, x.readyAt f i 1, -1, false, false⟩], by show x.pk ++ _ = _; rw [hu1]; rfl, by simp; omega, ?_⟩
    intro u hu
    rcases List.mem_append.1 hu with hu | hu
    · exact hu3 u hu
    · obtain rfl := List.mem_singleton.1 hu
      refine ⟨rfl, rfl, rfl, rfl, by show (0 : Int) ≤ i; omega, by show (i : Int) ≤ i; omega, hr.lo, f, by show l[(i : Int).toNat]? = _; rw [Int.toNat_natCast]; exact hi, ?_⟩
      show x.readyAt f i 1 + f.d ≤ t + 1
      have hk' : ((k + 1 : Nat) : Int) ≤ f.am (t - f.d) := by unfold Fl.e at hk; exact hk
      rcases hr.least with g | g
      · have : 0 ≤ t - f.d := by
          by_cases c : 0 ≤ t - f.d
          · exact c
          · have e0 : f.am (t - f.d) = 0 := allow_neg _ _ _ _ _ (by omega)
            omega
        omega
      · have := am_lt hm g hk'
        omega
  · intro f' hf'
    obtain rfl : f = f' := Option.some.inj (hi.symm.trans hf')
    show Uns f i ((x.pk ++ [_]).map Pk.sk).reverse (k + 1)
    rw [List.map_append, List.reverse_append]
    exact uns_cons (q := Pk.sk ⟨i, x.seqOf i, 1, x.readyAt f i 1, -1, false, false⟩) rfl rfl hr hun
theorem snd_next {t : Int} {l : List Fl} {x : Ln} {i k : Nat} {f : Fl} (s : Snd t l x i k) (hi : l[i]? = some f) (hk : (k : Int) = f.e t) : Snd t l x (i + 1) 0 := by
  obtain ⟨us, hu1, hu2, hu3⟩ := s.us
  have hl := (List.getElem?_eq_some_iff.1 hi)
  refine ⟨s.inv, s.stb, s.now, s.fl, s.beg, ⟨us, hu1, ?_, ?_⟩, ?_⟩
  · rw [tot_take_succ t l i hl.1, hl.2]; omega
  · intro u hu
    obtain ⟨a, b, c, d, e, g, h⟩ := hu3 u hu
    exact ⟨a, b, c, d, e, by omega, h⟩
  · intro f' _
    refine uns_none fun q hq => ?_
    rw [List.mem_reverse, List.mem_map] at hq
    obtain ⟨p, hp, rfl⟩ := hq
    show p.flow ≠ _
    rw [hu1] at hp
    rcases List.mem_cons.1 hp with rfl | hp
    · show (-1 : Int) ≠ _; omega
    · have := hu3 p hp; omega
theorem snd_end {t : Int} {l : List Fl} {x : Ln} (s : Snd t l x l.length 0) (ht1 : 1 ≤ t) (ht2 : t ≤ 1300) (h240 : tot t l ≤ 240) : Lz t (tot t l) x := by
  obtain ⟨us, hu1, hu2, hu3⟩ := s.us
  rw [List.take_length] at hu2
  have hus : ∀ c : Int → Bool, (∀ k, 0 ≤ k → c k = true) → sumOf (left c 1) us = us.length := fun c hc => by
    have : sumOf (left c 1) us = sumOf (fun _ => 1) us := sumOf_congr fun u hu => by
      obtain ⟨a, _, _, d, e, _⟩ := hu3 u hu
      unfold left rem
      rw [if_pos (hc _ e), if_pos (by omega), d]
    rw [this]
    clear this hu1 hu2 hu3
    induction us with
    | nil => rfl
    | cons u us ih => simp only [sumOf, List.length_cons, ih]; omega
  refine ⟨s.inv, ?_, ?_, ?_, ?_, ?_, ?_⟩
  · intro p hp
    rw [hu1] at hp
    rcases List.mem_cons.1 hp with rfl | hp
    · exact ⟨rfl, by decide, by decide, fun g => absurd (show (0 : Int) ≤ -1 from g) (by decide)⟩
    · obtain ⟨_, b, _, _, e, _, r, f, hf, hle⟩ := hu3 p hp
      have hd : dueOf x.fl p.flow = f.d := by unfold dueOf; rw [s.fl, List.getElem?_map, hf]; rfl
      have hm := s.inv.may ⟨f, 0⟩ (by rw [s.fl]; exact List.mem_map.2 ⟨f, List.mem_of_getElem? hf, rfl⟩)
      have := hm.s0; have := hm.d0
      have hd' : f.s ≤ f.d := hm.d0
      have hs' : 2 ≤ f.s := hm.s0
      exact ⟨b, by omega, by omega, fun _ => by rw [hd]; exact hle⟩
  · intro _
    refine ⟨?_, p0, ?_, rfl, rfl, by decide⟩
    · unfold sumR
      rw [hu1, s.now]
      simp only [sumOf]
      rw [hus isF (fun k hk => by unfold isF; simpa using hk)]
      have : left isF 1 p0 = 0 := rfl
      omega
    · unfold Ln.last
      rw [s.beg, hu1]
      rfl
  · intro g; rw [s.now] at g; omega
  · intro g; rw [s.now] at g; omega
  · unfold sumR
    rw [hu1, s.now]
    simp only [sumOf]
    rw [hus anyF (fun _ _ => rfl)]
    have : left anyF 1 p0 = 7 := rfl
    omega
  · intro g; rw [s.now] at g; omega
theorem tg_start {t : Int} {l : List Fl} {x : Ln} {i k : Nat} (s : Snd t l x i k) (G : List Pk) : Tg x G := by
  obtain ⟨us, hu1, _, hu3⟩ := s.us
  intro p hp ht
  rw [hu1] at hp
  rcases List.mem_cons.1 hp with rfl | hp
  · cases ht
  · rw [(hu3 p hp).2.2.1] at ht; cases ht
theorem tot_forty {t : Int} : ∀ {l : List Fl}, (∀ f ∈ l, f.e t ≤ 40) → l.length ≤ 6 → tot t l ≤ 40 * l.length
  | [], _, _ => by simp [tot]
  | f :: l, h, hl => by
    have a := tot_forty (t := t) (fun g hg => h g (List.mem_cons_of_mem _ hg)) (by simp at hl; omega)
    have b := h f (List.mem_cons_self ..)
    simp only [tot, List.length_cons]
    omega
end Go.Proofs.YtcnmajndackohaaGreatDoor
