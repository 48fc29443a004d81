import Derived.Test.YtcnmajndackohaaGreatDoorMg23
/-
  Plain: where flows do not fit, with the least violation t: what is brought at once is late.
-/
namespace Go.Proofs.YtcnmajndackohaaGreatDoor

def isF (k : Int) : Bool := decide (0 ≤ k)
def anyF (_ : Int) : Bool := true
/-- The line behind the bringing, tick by tick. -/
structure Lz (t S : Int) (x : Ln) : Prop where
  inv : Lnv x
  ps : ∀ p ∈ x.pk, p.dropped = false ∧ 0 ≤ p.ready ∧ p.ready ≤ 1301 ∧ (0 ≤ p.flow → p.ready + dueOf x.fl p.flow ≤ t + 1)
  early : x.now ≤ 8 → sumR isF x = S ∧ ∃ p, x.last = some p ∧ p.start = 0 ∧ p.size = 8 ∧ p.flow < 0
  mid : 8 ≤ x.now → S - (x.now - 8) ≤ sumR isF x
  late : t + 1 ≤ x.now → ∃ p ∈ x.pk, 0 ≤ p.flow ∧ (p.start < 0 ∨ t + 1 < p.start + p.size)
  all0 : sumR anyF x ≤ 248
  all1 : 1301 ≤ x.now → sumR anyF x ≤ 0 ∨ sumR anyF x ≤ 248 - (x.now - 1301)
theorem adv_fl (x : Ln) : x.adv.fl = x.fl := by
  unfold Ln.adv Ln.begins
  split
  · rfl
  · split <;> rfl
theorem tick_due (x : Ln) (k : Int) : dueOf x.tick.fl k = dueOf x.fl k := by
  rw [tick_adv, adv_fl]
  unfold Ln.away
  split
  · rfl
  · exact due_gone x.fl k
theorem tick_last {x : Ln} (h : x.busy = true) : x.tick.last = x.last := by
  obtain ⟨a, b⟩ := away_last x
  rw [tick_adv]
  have e : x.away.adv = { x.away with now := x.away.now + 1 } := by unfold Ln.adv Ln.begins; rw [if_pos (by rw [b]; exact h)]
  rw [e]
  exact a
theorem left_pos {c : Int → Bool} {now : Int} {p : Pk} (h : 0 < left c now p) : c p.flow = true ∧ 0 < rem now p := by
  unfold left at h
  split at h
  · rename_i g; exact ⟨g, h⟩
  · omega
theorem rem_pos {now : Int} {p : Pk} (h : 0 < rem now p) : p.start < 0 ∨ now < p.start + p.size := by
  unfold rem at h
  split at h
  · rename_i g; exact .inl g
  · split at h
    · rename_i g; exact .inr g
    · omega
theorem Lz.tick {t S : Int} {x : Ln} (hS : 0 < S) (ht : t < S + 7) (z : Lz t S x) : Lz t S x.tick := by
  have h := z.inv
  obtain ⟨q, w1, w2, w3, w4⟩ := tick_went h
  have hb : x.now < 8 → x.busy = true ∧ took isF q = 0 := fun g => by
    obtain ⟨_, p, hp, p0, p8, pf⟩ := z.early (by omega)
    have e : x.busy = true := by unfold Ln.busy; rw [hp]; simp only [decide_eq_true_eq]; omega
    obtain ⟨p', hp', rfl⟩ := w3 e
    obtain rfl : p = p' := Option.some.inj (hp.symm.trans hp')
    refine ⟨e, ?_⟩
    rw [took_some, if_neg]
    unfold isF; simp only [decide_eq_true_eq]; omega
  have early' : x.tick.now ≤ 8 → sumR isF x.tick = S ∧ ∃ p, x.tick.last = some p ∧ p.start = 0 ∧ p.size = 8 ∧ p.flow < 0 := fun g => by
    rw [w4] at g
    obtain ⟨e, k⟩ := hb (by omega)
    obtain ⟨a, b⟩ := z.early (by omega)
    rw [w1, k, a, tick_last e]
    exact ⟨by omega, b⟩
  have mid' : 8 ≤ x.tick.now → S - (x.tick.now - 8) ≤ sumR isF x.tick := fun g => by
    rw [w4] at g ⊢
    have := took_le isF q
    by_cases e : x.now = 7
    · have := (early' (by omega)).1; omega
    · have := z.mid (by omega)
      rw [w1]; omega
  refine ⟨h.tick, ?_, early', mid', ?_, ?_, ?_⟩
  · refine tick_each h z.ps ?_ ?_
    · intro p hp; rw [tick_due]; exact hp
    · intro p hp _
      show p.dropped = false ∧ 0 ≤ p.ready ∧ p.ready ≤ 1301 ∧ (0 ≤ p.flow → p.ready + dueOf x.tick.fl p.flow ≤ t + 1)
      rw [tick_due]; exact hp
  · intro g
    rw [w4] at g
    by_cases e : t + 1 ≤ x.now
    · obtain ⟨p, hp, k1, k2⟩ := z.late e
      refine tick_some h (P := fun p => 1 ≤ p.size ∧ 0 ≤ p.flow ∧ (p.start < 0 ∨ t + 1 < p.start + p.size)) ⟨p, hp, (h.sz p hp).1, k1, k2⟩ (fun _ k => k.2) ?_
      intro p hp he
      refine ⟨hp.2.1, .inr ?_⟩
      show t + 1 < x.now + p.size
      have := hp.1
      omega
    · have hF : 0 < sumR isF x.tick := by
        by_cases k : x.tick.now ≤ 8
        · rw [(early' k).1]; exact hS
        · have := mid' (by omega)
          rw [w4] at this
          omega
      obtain ⟨p, hp, hpos⟩ := sumOf_pos hF
      obtain ⟨c1, c2⟩ := left_pos hpos
      refine ⟨p, hp, by unfold isF at c1; simpa using c1, ?_⟩
      rcases rem_pos c2 with k | k
      · exact .inl k
      · right; rw [w4] at k; omega
  · rw [w1]; have := took_le anyF q; have := z.all0; omega
  · intro g
    rw [w4] at g ⊢
    rw [w1]
    have k := took_le anyF q
    by_cases e : 1301 ≤ x.now
    · rcases z.all1 e with a | a
      · left; omega
      · cases q with
        | some f =>
          right
          have : took anyF (some f) = 1 := rfl
          omega
        | none =>
          left
          rw [took_none]
          obtain ⟨b1, b2⟩ := w2 rfl
          have : sumR anyF x = 0 := by
            refine sumOf_zero fun p hp => ?_
            obtain ⟨p1, p2, p3, _⟩ := z.ps p hp
            have hd := h.idle b1 p hp
            have hs : ¬ p.start < 0 := fun hs => by
              have he : El x.now p := ⟨hs, p1, p2, by omega⟩
              obtain ⟨a1, a2, _⟩ := away_pk x
              unfold Ln.goes at b2
              split at b2
              · cases b2
              · rename_i n1
                have m : p ∈ x.away.pk := by rw [a1]; exact hp
                by_cases c : 0 ≤ p.flow
                · have := first_none n1 p m
                  rw [(elB_iff _ _ _).2 ⟨by rw [a2]; exact he, by simp [c]⟩] at this
                  cases this
                · have := first_none b2 p m
                  rw [(elB_iff _ _ _).2 ⟨by rw [a2]; exact he, by simp [c]⟩] at this
                  cases this
            unfold left anyF rem
            unfold done at hd
            rw [if_pos rfl, if_neg hs, if_neg (by omega)]
          omega
    · right
      have := z.all0
      omega
end Go.Proofs.YtcnmajndackohaaGreatDoor
/-
  Plain: the bringing itself, and the end: something that Gone told was late.
-/
namespace Go.Proofs.YtcnmajndackohaaGreatDoor

theorem ut_flow {p q : Pk} (h : untold q = untold p) : q.flow = p.flow := by have := congrArg Pk.flow h; exact this
theorem ut_seq {p q : Pk} (h : untold q = untold p) : q.seq = p.seq := by have := congrArg Pk.seq h; exact this
theorem ut_size {p q : Pk} (h : untold q = untold p) : q.size = p.size := by have := congrArg Pk.size h; exact this
theorem ut_ready {p q : Pk} (h : untold q = untold p) : q.ready = p.ready := by have := congrArg Pk.ready h; exact this
theorem ut_start {p q : Pk} (h : untold q = untold p) : q.start = p.start := by have := congrArg Pk.start h; exact this
theorem ut_dropped {p q : Pk} (h : untold q = untold p) : q.dropped = p.dropped := by have := congrArg Pk.dropped h; exact this
theorem mem_untold {pk pk' : List Pk} (e : pk'.map untold = pk.map untold) {p : Pk} (h : p ∈ pk') : ∃ q ∈ pk, untold q = untold p := by
  have : untold p ∈ pk.map untold := by rw [← e]; exact List.mem_map_of_mem h
  exact List.mem_map.1 this
theorem sum_untold {pk pk' : List Pk} (e : pk'.map untold = pk.map untold) (c : Int → Bool) (now : Int) : sumOf (left c now) pk' = sumOf (left c now) pk := by
  have a : sumOf (left c now) (pk'.map untold) = sumOf (left c now) (pk.map untold) := by rw [e]
  rw [sumOf_map, sumOf_map] at a
  exact a
theorem last_untold {x y : Ln} (hb : y.began = x.began) (e : y.pk.map untold = x.pk.map untold) {p : Pk} (h : x.last = some p) : ∃ q, y.last = some q ∧ untold q = untold p := by
  unfold Ln.last at h ⊢
  rw [hb]
  cases hl : x.began.getLast? with
  | none => rw [hl] at h; cases h
  | some i =>
    rw [hl] at h
    simp only [Option.bind_some] at h ⊢
    exact get_untold e.symm h
theorem Lz.gone {t S : Int} {x : Ln} (z : Lz t S x) : Lz t S x.gone.2 := by
  have e := gone_untold x.now x.began x.pk
  refine ⟨z.inv.gone, ?_, ?_, ?_, ?_, ?_, ?_⟩
  · intro p hp
    obtain ⟨q, hq, eq⟩ := mem_untold e hp
    have := z.ps q hq
    have e1 : q.flow = p.flow := ut_flow eq
    have e2 : q.dropped = p.dropped := ut_dropped eq
    have e3 : q.ready = p.ready := ut_ready eq
    rw [e1, e2, e3] at this
    exact this
  · intro g
    obtain ⟨a, p, hp, b⟩ := z.early g
    refine ⟨(sum_untold e isF x.now).trans a, ?_⟩
    obtain ⟨q, hq, eq⟩ := last_untold (x := x) (y := x.gone.2) rfl e hp
    have e1 : q.flow = p.flow := ut_flow eq
    have e2 : q.start = p.start := ut_start eq
    have e3 : q.size = p.size := ut_size eq
    exact ⟨q, hq, by rw [e2]; exact b.1, by rw [e3]; exact b.2.1, by rw [e1]; exact b.2.2⟩
  · intro g
    have := z.mid g
    rw [show sumR isF x.gone.2 = sumR isF x from sum_untold e isF x.now]; exact this
  · intro g
    obtain ⟨p, hp, k1, k2⟩ := z.late g
    obtain ⟨q, hq, eq⟩ := mem_untold e.symm hp
    have e1 : q.flow = p.flow := ut_flow eq
    have e2 : q.start = p.start := ut_start eq
    have e3 : q.size = p.size := ut_size eq
    exact ⟨q, hq, by rw [e1]; exact k1, by rw [e2, e3]; exact k2⟩
  · rw [show sumR anyF x.gone.2 = sumR anyF x from sum_untold e anyF x.now]; exact z.all0
  · intro g
    rw [show sumR anyF x.gone.2 = sumR anyF x from sum_untold e anyF x.now]; exact z.all1 g
theorem Lz.ticks {t S : Int} {x : Ln} (hS : 0 < S) (ht : t < S + 7) (z : Lz t S x) (n : Nat) : Lz t S (x.ticks n) := by
  induction n generalizing x with
  | zero => exact z
  | succ n ih => exact ih (z.tick hS ht)
theorem tick_now {x : Ln} (h : Lnv x) : x.tick.now = x.now + 1 := by
  obtain ⟨_, _, _, _, e⟩ := tick_went h; exact e
theorem ticks_now {x : Ln} (h : Lnv x) (n : Nat) : (x.ticks n).now = x.now + n := by
  induction n generalizing x with
  | zero => show x.now = x.now + (0 : Nat); omega
  | succ n ih =>
    show (x.tick.ticks n).now = _
    rw [ih h.tick, tick_now h]; omega
theorem stb_ticks {x : Ln} (h : Lnv x) (s : Stb x) (n : Nat) : Stb (x.ticks n) := by
  induction n generalizing x with
  | zero => exact s
  | succ n ih => exact ih h.tick (stb_tick h s)
theorem tg_ticks {x : Ln} {G : List Pk} (h : Lnv x) (s : Tg x G) (n : Nat) : Tg (x.ticks n) G := by
  induction n generalizing x with
  | zero => exact s
  | succ n ih => exact ih h.tick (tg_tick h s)

/-- The end: all has ended, and Gone has told it. -/
theorem late_end {t S : Int} {x : Ln} {G : List Pk} (hS : 0 < S) (ht : t < S + 7) (z : Lz t S x) (hall : ∀ p ∈ x.pk, 0 ≤ p.start ∧ p.start + p.size ≤ x.now)
    (hG : ∀ p ∈ x.pk, 0 ≤ p.start → p.start + p.size ≤ x.now → ∃ g ∈ G, untold g = untold p) : ∃ g ∈ G, 0 ≤ g.flow ∧ g.ready + dueOf x.fl g.flow < g.start + g.size := by
  have hF : sumR isF x = 0 := by
    refine sumOf_zero fun p hp => ?_
    have := hall p hp
    unfold left rem
    split
    · rw [if_neg (by omega), if_neg (by omega)]
    · rfl
  have hnow : t + 1 ≤ x.now := by
    by_cases g : t + 1 ≤ x.now
    · exact g
    · exfalso
      by_cases k : x.now ≤ 8
      · have := (z.early k).1; omega
      · have := z.mid (by omega); omega
  obtain ⟨p, hp, k1, k2⟩ := z.late hnow
  have ha := hall p hp
  obtain ⟨g, hg, e⟩ := hG p hp ha.1 ha.2
  have hps := (z.ps p hp).2.2.2 k1
  have e1 : g.flow = p.flow := ut_flow e
  have e2 : g.start = p.start := ut_start e
  have e3 : g.size = p.size := ut_size e
  have e4 : g.ready = p.ready := ut_ready e
  refine ⟨g, hg, by rw [e1]; exact k1, ?_⟩
  rw [e1, e2, e3, e4]
  omega
/-- Nothing is left. -/
theorem all_ended {x : Ln} (h : Lnv x) (hr : sumR anyF x ≤ 0) : ∀ p ∈ x.pk, 0 ≤ p.start ∧ p.start + p.size ≤ x.now := by
  intro p hp
  have a := sumOf_ge_mem (g := left anyF x.now) (l := x.pk) (fun q hq => by unfold left; split <;> first | exact rem_nonneg (h.sz q hq).1 | decide) hp
  have b : left anyF x.now p = rem x.now p := rfl
  have c := (h.sz p hp).1
  have d : rem x.now p ≤ 0 := by unfold sumR at hr; omega
  unfold rem at d
  split at d
  · omega
  · split at d <;> omega
/-- Nothing waits, and nothing is under way. -/
theorem all_told {x : Ln} (h : Lnv x) (hd : ∀ p ∈ x.pk, p.dropped = false) (hf : ∀ p ∈ x.pk, -1 ≤ p.flow) (hw : ∀ k : Nat, k < x.fl.length → x.waiting k = 0) (ho : x.waiting (-1) = 0) (hb : x.busy = false) : ∀ p ∈ x.pk, 0 ≤ p.start ∧ p.start + p.size ≤ x.now := by
  intro p hp
  have hdn := h.idle hb p hp
  have hs : ¬ p.start < 0 := fun hs => by
    have key : ∀ k : Int, p.flow = k → x.waiting k = 0 → False := fun k e hk => by
      unfold Ln.waiting at hk
      have := List.countP_eq_zero.1 hk p hp
      simp [e, hs, hd p hp] at this
    by_cases c : 0 ≤ p.flow
    · exact key p.flow rfl (by have := hw p.flow.toNat (h.own p hp c); rwa [Int.toNat_of_nonneg c] at this)
    · exact key (-1) (by have := hf p hp; omega) ho
  unfold done at hdn
  omega

/-- The line that Late begins with: a packet of none is under way. -/
def p0 : Pk := ⟨-1, 0, 8, 0, 0, false, false⟩
theorem gone1_live (l : List Fl) : (l.map fun f => (⟨f, 0⟩ : Stt)).map gone1 = l.map fun f => ⟨f, 0⟩ := by
  rw [List.map_map]; rfl
theorem late_start (l : List Fl) : (Ln.new l).other 8 = (0, ⟨0, l.map fun f => ⟨f, 0⟩, [⟨-1, 0, 8, 0, -1, false, false⟩], []⟩) := rfl
theorem late_one (l : List Fl) : (Ln.run ⟨0, l.map fun f => ⟨f, 0⟩, [⟨-1, 0, 8, 0, -1, false, false⟩], []⟩ 1) = (0, ⟨1, l.map fun f => ⟨f, 0⟩, [p0], [0]⟩) := by
  have e : Ln.tick ⟨0, l.map fun f => ⟨f, 0⟩, [⟨-1, 0, 8, 0, -1, false, false⟩], []⟩ = ⟨1, (l.map fun f => (⟨f, 0⟩ : Stt)).map gone1, [p0], [0]⟩ := rfl
  rw [gone1_live] at e
  show ((0 : Int), Ln.tick _) = _
  rw [e]
theorem late_gone (l : List Fl) : (Ln.gone ⟨1, l.map fun f => ⟨f, 0⟩, [p0], [0]⟩) = ([], ⟨1, l.map fun f => ⟨f, 0⟩, [p0], [0]⟩) := rfl

/-- The bringing: the flows ahead of i are through, and k packets of the i-th. -/
structure Snd (t : Int) (l : List Fl) (x : Ln) (i k : Nat) : Prop where
  inv : Lnv x
  stb : Stb x
  now : x.now = 1
  fl : x.fl = l.map fun f => ⟨f, 0⟩
  beg : x.began = [0]
  us : ∃ us, x.pk = p0 :: us ∧ (us.length : Int) = tot t (l.take i) + k ∧ ∀ u ∈ us, u.start = -1 ∧ u.dropped = false ∧ u.told = false ∧ u.size = 1 ∧ 0 ≤ u.flow ∧ u.flow ≤ i ∧ 1 ≤ u.ready ∧ ∃ f, l[u.flow.toNat]? = some f ∧ u.ready + f.d ≤ t + 1
  un : ∀ f, l[i]? = some f → Uns f i (x.pk.map Pk.sk).reverse k
theorem snd_start {t : Int} {l : List Fl} (hm : ∀ f ∈ l, f.may) : Snd t l ⟨1, l.map fun f => ⟨f, 0⟩, [p0], [0]⟩ 0 0 := by
  have e1 := late_start l
  have e2 := late_one l
  have h1 : Lnv ((Ln.new l).other 8).2 := (lnv_new hm).other 8
  have s1 : Stb ((Ln.new l).other 8).2 := stb_other (stb_new l) 8
  rw [e1] at h1 s1
  have h2 := h1.tick
  have s2 := stb_tick h1 s1
  have e : Ln.tick ⟨0, l.map fun f => ⟨f, 0⟩, [⟨-1, 0, 8, 0, -1, false, false⟩], []⟩ = ⟨1, l.map fun f => ⟨f, 0⟩, [p0], [0]⟩ := congrArg Prod.snd e2
  rw [e] at h2 s2
  refine ⟨h2, s2, rfl, rfl, rfl, ⟨[], rfl, by simp [tot], fun u hu => by cases hu⟩, fun f _ => ?_⟩
  refine uns_none fun x hx => ?_
  have : x = p0.sk := by simpa using hx
  rw [this]
  show (-1 : Int) ≠ ((0 : Nat) : Int)
  decide
theorem uns_count {f : Fl} {k : Int} : ∀ {l : List Sk} {m : Nat}, Uns f k l m → l.countP (fun q => decide (q.flow = k)) = m
  | [], m, h => by have : m = 0 := h; rw [this]; rfl
  | q :: l, m, h => by
    unfold Uns at h
    by_cases g : q.flow = k
    · rw [if_pos g] at h
      obtain ⟨m', rfl, _, _, h'⟩ := h
      rw [List.countP_cons_of_pos (by simpa using g), uns_count h']
    · rw [if_neg g] at h
      rw [List.countP_cons_of_neg (by simpa using g), uns_count h]
theorem countP_le {α : Type} {p q : α → Bool} (h : ∀ x, p x = true → q x = true) : ∀ l : List α, l.countP p ≤ l.countP q
  | [] => Nat.le_refl _
  | x :: l => by
    have ih := countP_le h l
    by_cases g : p x = true
    · rw [List.countP_cons_of_pos g, List.countP_cons_of_pos (h x g)]; omega
    · rw [List.countP_cons_of_neg g]
      by_cases k : q x = true
      · rw [List.countP_cons_of_pos k]; omega
      · rw [List.countP_cons_of_neg k]; exact ih
theorem uns_cons {f : Fl} {k : Int} {l : List Sk} {m : Nat} {q : Sk} (hk : q.flow = k) (hs : q.size = 1) (hu : Un f ((m + 1 : Nat) : Int) q.ready) (h : Uns f k l m) : Uns f k (q :: l) (m + 1) := by
  unfold Uns; rw [if_pos hk]; exact ⟨m, rfl, hs, hu, h⟩
theorem snd_send {t : Int} {l : List Fl} {x : Ln} {i k : Nat} {f : Fl} (s : Snd t l x i k) (hi : l[i]? = some f) (hk : (k : Int) + 1 ≤ f.e t) (h40 : k < 40) :
    ∃ x', x.send i 1 = (0, x') ∧ Snd t l x' i (k + 1) := by
  have hst : x.fl[i]? = some ⟨f, 0⟩ := by rw [s.fl, List.getElem?_map, hi]; rfl
  have ha : x.at? i = some ⟨f, 0⟩ := by unfold Ln.at?; rw [if_pos (by omega), Int.toNat_natCast]; exact hst
  have hm : f.may := s.inv.may ⟨f, 0⟩ (List.mem_of_getElem? hst)
  have hs2 := hm.s0
  have hun := s.un f hi
  have hw : ¬ 40 ≤ x.waiting i := by
    have c := uns_count hun
    rw [List.countP_reverse, List.countP_map] at c
    have d : x.waiting i ≤ x.pk.countP ((fun q => decide (q.flow = (i : Int))) ∘ Pk.sk) := countP_le (fun p hp => by
      simp only [Bool.and_eq_true] at hp
      exact hp.1.1) x.pk
    omega
  have e : x.send i 1 = (0, x.push i 1 (x.readyAt f i 1)) := by
    unfold Ln.send
    rw [ha]
    simp only
    rw [if_neg (by simp), if_neg (by omega), if_neg hw]
  have hr : Un f ((k + 1 : Nat) : Int) (x.readyAt f i 1) := unit_ready hm (T := t - f.d) s.now hun (by unfold Fl.e at hk; exact hk)
  refine ⟨_, e, ?_⟩
  have i1 := s.inv.send i 1
  have s1 := stb_send s.stb i 1
  rw [e] at i1 s1
  obtain ⟨us, hu1, hu2, hu3⟩ := s.us
  refine ⟨i1, s1, s.now, s.fl, s.beg, ?_, ?_⟩
  · refine ⟨us ++ [⟨i, x.seqOf i, 1, x.readyAt f i 1, -1, false, false⟩], by show x.pk ++ _ = _; rw [hu1]; rfl, by simp; omega, ?_⟩
    intro u hu
    rcases List.mem_append.1 hu with hu | hu
    · exact hu3 u hu
    · obtain rfl := List.mem_singleton.1 hu
      refine ⟨rfl, rfl, rfl, rfl, by show (0 : Int) ≤ i; omega, by show (i : Int) ≤ i; omega, hr.lo, f, by show l[(i : Int).toNat]? = _; rw [Int.toNat_natCast]; exact hi, ?_⟩
      show x.readyAt f i 1 + f.d ≤ t + 1
      have hk' : ((k + 1 : Nat) : Int) ≤ f.am (t - f.d) := by unfold Fl.e at hk; exact hk
      rcases hr.least with g | g
      · have : 0 ≤ t - f.d := by
          by_cases c : 0 ≤ t - f.d
          · exact c
          · have e0 : f.am (t - f.d) = 0 := allow_neg _ _ _ _ _ (by omega)
            omega
        omega
      · have := am_lt hm g hk'
        omega
  · intro f' hf'
    obtain rfl : f = f' := Option.some.inj (hi.symm.trans hf')
    show Uns f i ((x.pk ++ [_]).map Pk.sk).reverse (k + 1)
    rw [List.map_append, List.reverse_append]
    exact uns_cons (q := Pk.sk ⟨i, x.seqOf i, 1, x.readyAt f i 1, -1, false, false⟩) rfl rfl hr hun
theorem snd_next {t : Int} {l : List Fl} {x : Ln} {i k : Nat} {f : Fl} (s : Snd t l x i k) (hi : l[i]? = some f) (hk : (k : Int) = f.e t) : Snd t l x (i + 1) 0 := by
  obtain ⟨us, hu1, hu2, hu3⟩ := s.us
  have hl := (List.getElem?_eq_some_iff.1 hi)
  refine ⟨s.inv, s.stb, s.now, s.fl, s.beg, ⟨us, hu1, ?_, ?_⟩, ?_⟩
  · rw [tot_take_succ t l i hl.1, hl.2]; omega
  · intro u hu
    obtain ⟨a, b, c, d, e, g, h⟩ := hu3 u hu
    exact ⟨a, b, c, d, e, by omega, h⟩
  · intro f' _
    refine uns_none fun q hq => ?_
    rw [List.mem_reverse, List.mem_map] at hq
    obtain ⟨p, hp, rfl⟩ := hq
    show p.flow ≠ _
    rw [hu1] at hp
    rcases List.mem_cons.1 hp with rfl | hp
    · show (-1 : Int) ≠ _; omega
    · have := hu3 p hp; omega
theorem snd_end {t : Int} {l : List Fl} {x : Ln} (s : Snd t l x l.length 0) (ht1 : 1 ≤ t) (ht2 : t ≤ 1300) (h240 : tot t l ≤ 240) : Lz t (tot t l) x := by
  obtain ⟨us, hu1, hu2, hu3⟩ := s.us
  rw [List.take_length] at hu2
  have hus : ∀ c : Int → Bool, (∀ k, 0 ≤ k → c k = true) → sumOf (left c 1) us = us.length := fun c hc => by
    have : sumOf (left c 1) us = sumOf (fun _ => 1) us := sumOf_congr fun u hu => by
      obtain ⟨a, _, _, d, e, _⟩ := hu3 u hu
      unfold left rem
      rw [if_pos (hc _ e), if_pos (by omega), d]
    rw [this]
    clear this hu1 hu2 hu3
    induction us with
    | nil => rfl
    | cons u us ih => simp only [sumOf, List.length_cons, ih]; omega
  refine ⟨s.inv, ?_, ?_, ?_, ?_, ?_, ?_⟩
  · intro p hp
    rw [hu1] at hp
    rcases List.mem_cons.1 hp with rfl | hp
    · exact ⟨rfl, by decide, by decide, fun g => absurd (show (0 : Int) ≤ -1 from g) (by decide)⟩
    · obtain ⟨_, b, _, _, e, _, r, f, hf, hle⟩ := hu3 p hp
      have hd : dueOf x.fl p.flow = f.d := by unfold dueOf; rw [s.fl, List.getElem?_map, hf]; rfl
      have hm := s.inv.may ⟨f, 0⟩ (by rw [s.fl]; exact List.mem_map.2 ⟨f, List.mem_of_getElem? hf, rfl⟩)
      have := hm.s0; have := hm.d0
      have hd' : f.s ≤ f.d := hm.d0
      have hs' : 2 ≤ f.s := hm.s0
      exact ⟨b, by omega, by omega, fun _ => by rw [hd]; exact hle⟩
  · intro _
    refine ⟨?_, p0, ?_, rfl, rfl, by decide⟩
    · unfold sumR
      rw [hu1, s.now]
      simp only [sumOf]
      rw [hus isF (fun k hk => by unfold isF; simpa using hk)]
      have : left isF 1 p0 = 0 := rfl
      omega
    · unfold Ln.last
      rw [s.beg, hu1]
      rfl
  · intro g; rw [s.now] at g; omega
  · intro g; rw [s.now] at g; omega
  · unfold sumR
    rw [hu1, s.now]
    simp only [sumOf]
    rw [hus anyF (fun _ _ => rfl)]
    have : left anyF 1 p0 = 7 := rfl
    omega
  · intro g; rw [s.now] at g; omega
theorem tg_start {t : Int} {l : List Fl} {x : Ln} {i k : Nat} (s : Snd t l x i k) (G : List Pk) : Tg x G := by
  obtain ⟨us, hu1, _, hu3⟩ := s.us
  intro p hp ht
  rw [hu1] at hp
  rcases List.mem_cons.1 hp with rfl | hp
  · cases ht
  · rw [(hu3 p hp).2.2.1] at ht; cases ht
theorem tot_forty {t : Int} : ∀ {l : List Fl}, (∀ f ∈ l, f.e t ≤ 40) → l.length ≤ 6 → tot t l ≤ 40 * l.length
  | [], _, _ => by simp [tot]
  | f :: l, h, hl => by
    have a := tot_forty (t := t) (fun g hg => h g (List.mem_cons_of_mem _ hg)) (by simp at hl; omega)
    have b := h f (List.mem_cons_self ..)
    simp only [tot, List.length_cons]
    omega
end Go.Proofs.YtcnmajndackohaaGreatDoor
/-
  Plain: of each flow packets begin in their order; what began, one by one.
-/
namespace Go.Proofs.YtcnmajndackohaaGreatDoor

theorem pickF_tie {now : Int} {fl : List Stt} {flows : Bool} : ∀ (l : List Pk) (i : Nat) (b : Option Bst),
    pickF now fl flows l i b = b ∨
    ∃ l1 p l2, l = l1 ++ p :: l2 ∧ elB now flows p = true ∧ pickF now fl flows l i b = some ⟨i + l1.length, key fl flows p, p.flow⟩ ∧ (∀ q ∈ l1, elB now flows q = true → key fl flows p < key fl flows q ∨ (key fl flows p = key fl flows q ∧ p.flow < q.flow)) ∧ ∀ c, b = some c → key fl flows p < c.due ∨ (key fl flows p = c.due ∧ p.flow < c.flow)
  | [], _, _ => .inl rfl
  | p :: l, i, b => by
    by_cases g : elB now flows p = true ∧ better fl flows p b = true
    · have e : pickF now fl flows (p :: l) i b = pickF now fl flows l (i + 1) (some ⟨i, key fl flows p, p.flow⟩) := by
        show pickF now fl flows l (i + 1) _ = _; rw [if_pos g]
      have hb : ∀ c, b = some c → key fl flows p < c.due ∨ (key fl flows p = c.due ∧ p.flow < c.flow) := by
        rintro c rfl
        have := g.2
        unfold better at this
        simpa only [Bool.or_eq_true, Bool.and_eq_true, decide_eq_true_eq] using this
      rcases pickF_tie l (i + 1) (some ⟨i, key fl flows p, p.flow⟩) with h1 | ⟨l1, q, l2, rfl, h2, h3, h4, h5⟩
      · exact .inr ⟨[], p, l, rfl, g.1, by rw [e, h1]; rfl, (fun q hq => by cases hq), hb⟩
      · have h5' : key fl flows q < key fl flows p ∨ (key fl flows q = key fl flows p ∧ q.flow < p.flow) := h5 _ rfl
        refine .inr ⟨p :: l1, q, l2, rfl, h2, by rw [e, h3]; simp; omega, ?_, ?_⟩
        · intro z hz he
          rcases List.mem_cons.1 hz with rfl | hz
          · exact h5'
          · exact h4 z hz he
        · intro c hc
          have := hb c hc
          omega
    · have e : pickF now fl flows (p :: l) i b = pickF now fl flows l (i + 1) b := by
        show pickF now fl flows l (i + 1) _ = _; rw [if_neg g]
      rcases pickF_tie l (i + 1) b with h1 | ⟨l1, q, l2, rfl, h2, h3, h4, h5⟩
      · exact .inl (by rw [e, h1])
      · refine .inr ⟨p :: l1, q, l2, rfl, h2, by rw [e, h3]; simp; omega, ?_, h5⟩
        intro z hz he
        rcases List.mem_cons.1 hz with rfl | hz
        · cases b with
          | none => exact absurd ⟨he, rfl⟩ g
          | some c =>
            have a := h5 c rfl
            have k : ¬ better fl flows z (some c) = true := fun k => g ⟨he, k⟩
            unfold better at k
            simp only [Bool.or_eq_true, Bool.and_eq_true, decide_eq_true_eq] at k
            omega
        · exact h4 z hz he
theorem split_uniq {α : Type} {l1 m1 : List α} {p q : α} {l2 m2 : List α} (h : l1 ++ p :: l2 = m1 ++ q :: m2) (hl : l1.length = m1.length) : l1 = m1 ∧ p = q ∧ l2 = m2 := by
  obtain ⟨a, b⟩ := List.append_inj h hl
  simp only [List.cons.injEq] at b
  exact ⟨a, b.1, b.2⟩
theorem first_tie {x : Ln} {flows : Bool} {l1 l2 : List Pk} {p : Pk} {b : Bst} (h : x.first flows = some b) (e : x.pk = l1 ++ p :: l2) (hi : b.i = l1.length) :
    elB x.now flows p = true ∧ ∀ q ∈ l1, elB x.now flows q = true → key x.fl flows p < key x.fl flows q ∨ (key x.fl flows p = key x.fl flows q ∧ p.flow < q.flow) := by
  unfold Ln.first at h
  rcases pickF_tie (now := x.now) (fl := x.fl) (flows := flows) x.pk 0 none with h1 | ⟨m1, q, m2, e2, h2, h3, h4, _⟩
  · rw [h1] at h; cases h
  · rw [h3] at h
    have hb : (⟨0 + m1.length, key x.fl flows q, q.flow⟩ : Bst) = b := Option.some.inj h
    have hl : m1.length = l1.length := by
      have : b.i = 0 + m1.length := by rw [← hb]
      omega
    obtain ⟨rfl, rfl, rfl⟩ := split_uniq (e2.symm.trans e) hl
    exact ⟨h2, h4⟩
theorem cfm_tail {f : Fl} {k : Int} : ∀ {a b : List Sk}, Cfm f k (a ++ b) → Cfm f k b
  | [], _, h => h
  | _ :: a, _, h => cfm_tail (a := a) h.2
/-- Of a flow packets are ready in their order. -/
theorem ready_order {x : Ln} (h : Lnv x) {l1 l2 : List Pk} {p : Pk} (e : x.pk = l1 ++ p :: l2) (h0 : 0 ≤ p.flow) (hr : 0 ≤ p.ready) : ∀ q ∈ l1, q.flow = p.flow → 0 ≤ q.ready ∧ q.ready ≤ p.ready := by
  intro q hq hf
  have hp : p ∈ x.pk := by rw [e]; simp
  have hl := h.own p hp h0
  have c := h.cf p.flow.toNat _ (List.getElem?_eq_getElem hl)
  rw [e, List.map_append, List.map_cons, List.reverse_append, List.reverse_cons, List.append_assoc] at c
  have c2 := cfm_tail c
  have c3 := c2.1 (show p.flow = (p.flow.toNat : Int) by omega) hr
  exact confL_ready c3.2 q.sk (List.mem_reverse.2 (List.mem_map_of_mem hq)) (show q.flow = (p.flow.toNat : Int) by omega)

/-- The packets of flow k that have begun. -/
def stf (k : Int) (p : Pk) : Bool := decide (p.flow = k) && decide (0 ≤ p.start)
/-- What began is B (in its order): of each flow in its order, one by one. -/
structure Od (x : Ln) (B : List Pk) : Prop where
  inv : Lnv x
  stb : Stb x
  sq : ∀ l1 p l2, x.pk = l1 ++ p :: l2 → p.seq = ((l1.countP fun q => decide (q.flow = p.flow) : Nat) : Int)
  pf : ∀ l1 p l2, x.pk = l1 ++ p :: l2 → 0 ≤ p.start → ∀ q ∈ l1, q.flow = p.flow → 0 ≤ q.start
  dr : ∀ l1 p l2, x.pk = l1 ++ p :: l2 → ∀ q ∈ l1, q.flow = p.flow → q.dropped = true → p.dropped = true
  dz : ∀ p ∈ x.pk, p.dropped = true → 0 ≤ p.flow ∧ p.start < 0 ∧ 1 ≤ isOf x.fl p.flow
  od : ∀ p ∈ x.pk, p.flow < 0 → p.flow = -1 ∧ 0 ≤ p.ready ∧ p.ready ≤ x.now
  bl : B.length = x.began.length
  ba : ∀ (j i : Nat), x.began[j]? = some i → ∃ p, x.pk[i]? = some p ∧ B[j]? = some (untold p)
  bo : ∀ b1 b c b2, B = b1 ++ b :: c :: b2 → b.start + b.size ≤ c.start
  nd : x.began.Nodup
  fb : ∀ k, B.filter (fun p => decide (p.flow = k)) = (x.pk.filter (stf k)).map untold
theorem od_new {l : List Fl} (h : ∀ f ∈ l, f.may) : Od (Ln.new l) [] := by
  refine ⟨lnv_new h, stb_new l, ?_, ?_, ?_, ?_, ?_, rfl, ?_, ?_, List.nodup_nil, fun _ => rfl⟩
  · intro l1 p l2 e; have e' : [] = l1 ++ p :: l2 := e; simp at e'
  · intro l1 p l2 e; have e' : [] = l1 ++ p :: l2 := e; simp at e'
  · intro l1 p l2 e; have e' : [] = l1 ++ p :: l2 := e; simp at e'
  · intro p hp; cases hp
  · intro p hp; cases hp
  · intro j i e; have e' : ([] : List Nat)[j]? = some i := e; simp at e'
  · intro b1 b c b2 e; simp at e
theorem snoc_split {α : Type} {l : List α} {x : α} {l1 : List α} {p : α} {l2 : List α} (h : l ++ [x] = l1 ++ p :: l2) : (l2 = [] ∧ l1 = l ∧ p = x) ∨ ∃ m, l2 = m ++ [x] ∧ l = l1 ++ p :: m := by
  rcases List.eq_nil_or_concat l2 with rfl | ⟨m, y, rfl⟩
  · left
    have := List.append_inj' h rfl
    simp at this
    exact ⟨rfl, this.1.symm, this.2.symm⟩
  · right
    rw [List.concat_eq_append] at h ⊢
    have h' : l ++ [x] = (l1 ++ p :: m) ++ [y] := by rw [h]; simp
    have := List.append_inj' h' rfl
    simp at this
    exact ⟨m, by rw [this.2], this.1⟩
/-- A packet is brought. -/
theorem Od.push {x : Ln} {B : List Pk} (o : Od x B) {p : Pk} (n : New x.now x.fl x.pk p) (hs : p.start < 0) (hq : p.seq = (x.seqOf p.flow : Int)) (hi : 0 ≤ p.flow → isOf x.fl p.flow = 0) (ho : p.flow < 0 → p.flow = -1 ∧ 0 ≤ p.ready ∧ p.ready ≤ x.now) (hst : Stb { x with pk := x.pk ++ [p] }) : Od { x with pk := x.pk ++ [p] } B := by
  refine ⟨o.inv.push n, hst, ?_, ?_, ?_, ?_, ?_, o.bl, ?_, o.bo, o.nd, ?_⟩
  · intro l1 q l2 e
    rcases snoc_split e with ⟨_, rfl, rfl⟩ | ⟨m, _, e'⟩
    · exact hq
    · exact o.sq l1 q m e'
  · intro l1 q l2 e h0
    rcases snoc_split e with ⟨_, rfl, rfl⟩ | ⟨m, _, e'⟩
    · omega
    · exact o.pf l1 q m e' h0
  · intro l1 q l2 e z hz hzf hzd
    rcases snoc_split e with ⟨_, rfl, rfl⟩ | ⟨m, _, e'⟩
    · have := o.dz z hz hzd
      rw [hzf] at this
      have := hi this.1
      omega
    · exact o.dr l1 q m e' z hz hzf hzd
  · intro q hq hd
    rcases List.mem_append.1 hq with hq | hq
    · exact o.dz q hq hd
    · obtain rfl := List.mem_singleton.1 hq; rw [n.dr] at hd; cases hd
  · intro q hq hf
    rcases List.mem_append.1 hq with hq | hq
    · exact o.od q hq hf
    · obtain rfl := List.mem_singleton.1 hq; exact ho hf
  · intro j i hj
    obtain ⟨q, hq, hb⟩ := o.ba j i hj
    refine ⟨q, ?_, hb⟩
    show (x.pk ++ [p])[i]? = some q
    rw [List.getElem?_append_left (List.getElem?_eq_some_iff.1 hq).1]; exact hq
  · intro k
    show _ = ((x.pk ++ [p]).filter (stf k)).map untold
    rw [List.filter_append, List.filter_cons_of_neg (by unfold stf; simp; omega), List.filter_nil, List.append_nil]
    exact o.fb k
theorem od_send {x : Ln} {B : List Pk} (o : Od x B) (k size : Int) : Od (x.send k size).2 B := by
  have hs := stb_send o.stb k size
  revert hs
  refine send_cases (P := fun y => Stb y → Od y B) (fun _ => o) fun st ha hi hz hs => ?_
  obtain ⟨k0, hk⟩ := at_some ha
  exact o.push (new_flow o.inv ha hi hz) (by show (-1 : Int) < 0; decide) rfl (fun _ => by show isOf x.fl k = 0; unfold isOf; rw [hk]; exact hi) (fun g => by have : k < 0 := g; omega) hs
theorem od_other {x : Ln} {B : List Pk} (o : Od x B) (size : Int) : Od (x.other size).2 B := by
  have hs := stb_other o.stb size
  revert hs
  refine other_cases (P := fun y => Stb y → Od y B) (fun _ => o) fun hz hs => ?_
  exact o.push (new_none hz) (by show (-1 : Int) < 0; decide) rfl (fun g => absurd (show (0 : Int) ≤ -1 from g) (by decide)) (fun _ => ⟨rfl, o.inv.n0, Int.le_refl _⟩) hs
/-- Only flows change. -/
theorem Od.flows {x : Ln} {B : List Pk} (o : Od x B) {fl : List Stt} (h : Lnv { x with fl := fl }) (hi : ∀ p ∈ x.pk, 1 ≤ isOf x.fl p.flow → 0 ≤ p.flow → 1 ≤ isOf fl p.flow) : Od { x with fl := fl } B :=
  ⟨h, o.stb, o.sq, o.pf, o.dr, fun p hp hd => by have := o.dz p hp hd; exact ⟨this.1, this.2.1, hi p hp this.2.2 this.1⟩, o.od, o.bl, o.ba, o.bo, o.nd, o.fb⟩
theorem od_away {x : Ln} {B : List Pk} (o : Od x B) : Od x.away B := by
  have h := o.inv.away
  revert h
  refine away_cases (P := fun y => Lnv y → Od y B) (fun _ => o) fun _ _ h => o.flows h fun p _ hp _ => ?_
  rw [is_gone]; split <;> omega
theorem od_setup {x : Ln} {B : List Pk} (o : Od x B) (f : Fl) : Od (x.setup f).2 B := by
  have h := o.inv.setup f
  revert h
  refine setup_cases (P := fun y => Lnv y → Od y B) (fun _ => o) fun _ _ h => o.flows h fun p hp hi h0 => ?_
  have := o.inv.own p hp h0
  unfold isOf at hi ⊢
  rw [List.getElem?_append_left this]; exact hi
/-- All of the flow that are ahead of what begins have begun. -/
theorem ahead {x : Ln} {B : List Pk} (o : Od x B) {b : Bst} (hg : x.goes = some b) {l1 l2 : List Pk} {p : Pk} (e : x.pk = l1 ++ p :: l2) (hi : b.i = l1.length) (he : El x.now p) : ∀ q ∈ l1, q.flow = p.flow → 0 ≤ q.start := by
  intro q hq hf
  by_cases hs : 0 ≤ q.start
  · exact hs
  · exfalso
    have hnd : q.dropped = false := by
      cases hd : q.dropped with
      | false => rfl
      | true => have := o.dr l1 p l2 e q hq hf hd; rw [he.2.1] at this; cases this
    have hqm : q ∈ x.pk := by rw [e]; simp [hq]
    unfold Ln.goes at hg
    split at hg
    · rename_i b' hb
      obtain rfl := Option.some.inj hg
      obtain ⟨hel, ht⟩ := first_tie hb e hi
      have hfl := ((elB_iff _ _ _).1 hel).2.2 rfl
      have hr := ready_order o.inv e hfl he.2.2.1 q hq hf
      have := ht q hq ((elB_iff _ _ _).2 ⟨⟨by omega, hnd, hr.1, by have := he.2.2.2; omega⟩, by simp [hf, hfl]⟩)
      simp only [key, if_true] at this
      rw [hf] at this
      omega
    · obtain ⟨hel, ht⟩ := first_tie hg e hi
      have hfl : p.flow < 0 := by
        have := ((elB_iff _ _ _).1 hel).2
        by_cases g : 0 ≤ p.flow
        · have := this.1 g; cases this
        · omega
      have hr := (o.od q hqm (by omega)).2
      have := ht q hq ((elB_iff _ _ _).2 ⟨⟨by omega, hnd, hr.1, hr.2⟩, by
        constructor
        · intro g; omega
        · intro g; cases g⟩)
      simp [key] at this
      omega
theorem filter_mem_nil {α : Type} {f : α → Bool} {l : List α} (h : ∀ x ∈ l, f x = false) : l.filter f = [] := by
  rw [List.filter_eq_nil_iff]; intro x hx; rw [h x hx]; decide
end Go.Proofs.YtcnmajndackohaaGreatDoor
