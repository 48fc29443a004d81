import Derived.Test.YtcnmajndackohaaGreatDoorMg24
import Derived.Test.YtcnmajndackohaaGreatDoorMg23
/-
  Plain: the order holds behind each call.
-/
namespace Go.Proofs.YtcnmajndackohaaGreatDoor

theorem split3 {α : Type} {l1 l2 m1 m2 : List α} {a q : α} (h : l1 ++ a :: l2 = m1 ++ q :: m2) :
    (∃ r, l1 = m1 ++ q :: r ∧ m2 = r ++ a :: l2) ∨ (m1 = l1 ∧ q = a ∧ m2 = l2) ∨ ∃ r, m1 = l1 ++ a :: r ∧ l2 = r ++ q :: m2 := by
  rcases List.append_eq_append_iff.1 h with ⟨r, e1, e2⟩ | ⟨r, e1, e2⟩
  · cases r with
    | nil =>
      simp at e1 e2
      exact .inr (.inl ⟨e1, e2.1.symm, e2.2.symm⟩)
    | cons b r =>
      simp only [List.cons_append, List.cons.injEq] at e2
      obtain ⟨rfl, e2⟩ := e2
      exact .inr (.inr ⟨r, e1, e2⟩)
  · cases r with
    | nil =>
      simp at e1 e2
      exact .inr (.inl ⟨e1.symm, e2.1, e2.2⟩)
    | cons b r =>
      simp only [List.cons_append, List.cons.injEq] at e2
      obtain ⟨rfl, e2⟩ := e2
      exact .inl ⟨r, e1, e2⟩
theorem adv_cases2 {x : Ln} (h : Lnv x) {P : Ln → Prop} (h1 : P { x with now := x.now + 1 })
    (h3 : ∀ l1 p l2 b, x.goes = some b → b.i = l1.length → (∀ q ∈ x.pk, done x.now q) → x.pk = l1 ++ p :: l2 → El x.now p → P ⟨x.now + 1, x.fl, l1 ++ beg x.now p :: l2, x.began ++ [l1.length]⟩) : P x.adv := by
  cases e : x.busy with
  | true =>
    have : x.adv = { x with now := x.now + 1 } := by unfold Ln.adv Ln.begins; rw [if_pos e]
    rw [this]; exact h1
  | false =>
    have hall := h.idle e
    have ne : ¬ x.busy = true := by rw [e]; decide
    cases g : x.goes with
    | none =>
      have : x.adv = { x with now := x.now + 1 } := by unfold Ln.adv Ln.begins; rw [if_neg ne, g]
      rw [this]; exact h1
    | some b =>
      obtain ⟨l1, p, l2, ep, hi, he, _⟩ := goes_some g
      have : x.adv = ⟨x.now + 1, x.fl, l1 ++ beg x.now p :: l2, x.began ++ [l1.length]⟩ := by
        unfold Ln.adv Ln.begins; rw [if_neg ne, g]
        simp only [hi]
        rw [ep, modify_at]
      rw [this]
      exact h3 l1 p l2 b g hi hall ep he
theorem get_beg {l1 l2 : List Pk} {p q : Pk} {i : Nat} (h : (l1 ++ p :: l2)[i]? = some q) (hi : i ≠ l1.length) (z : Pk) : (l1 ++ z :: l2)[i]? = some q := by
  rcases Nat.lt_or_ge i l1.length with g | g
  · rw [List.getElem?_append_left g] at h ⊢; exact h
  · rw [List.getElem?_append_right g] at h ⊢
    obtain ⟨j, hj⟩ : ∃ j, i - l1.length = j + 1 := ⟨i - l1.length - 1, by omega⟩
    rw [hj] at h ⊢; exact h
/-- What began is of the line. -/
theorem Od.mem {x : Ln} {B : List Pk} (o : Od x B) {b : Pk} (hb : b ∈ B) : ∃ p ∈ x.pk, b = untold p ∧ 0 ≤ p.start := by
  obtain ⟨j, hj⟩ := List.mem_iff_getElem?.1 hb
  have hl : j < x.began.length := by rw [← o.bl]; exact (List.getElem?_eq_some_iff.1 hj).1
  obtain ⟨p, hp, hB⟩ := o.ba j _ (List.getElem?_eq_getElem hl)
  rw [hj] at hB
  obtain ⟨p', hp', h0⟩ := o.inv.bg _ (List.getElem_mem hl)
  obtain rfl : p = p' := Option.some.inj (hp.symm.trans hp')
  exact ⟨p, List.mem_of_getElem? hp, Option.some.inj hB, h0⟩
theorem od_tick {x : Ln} {B : List Pk} (o0 : Od x B) : ∃ C, Od x.tick (B ++ C) := by
  have hL := o0.inv.tick
  have hS := stb_tick o0.inv o0.stb
  have o := od_away o0
  rw [tick_adv] at hL hS ⊢
  generalize x.away = x at *
  clear o0
  revert hL hS
  refine adv_cases2 o.inv (P := fun y => Lnv y → Stb y → ∃ C, Od y (B ++ C)) ?_ ?_
  · intro hL hS
    refine ⟨[], ?_⟩
    rw [List.append_nil]
    exact ⟨hL, hS, o.sq, o.pf, o.dr, o.dz, fun p hp hf => by have := o.od p hp hf; exact ⟨this.1, this.2.1, by show p.ready ≤ x.now + 1; omega⟩, o.bl, o.ba, o.bo, o.nd, o.fb⟩
  · intro l1 p l2 b hg hi hall e he hL hS
    have hn := o.inv.n0
    have ha := ahead o hg e hi he
    have hni : l1.length ∉ x.began := fun hc => by
      obtain ⟨q, hq, h0⟩ := o.inv.bg _ hc
      rw [e, get_at] at hq
      obtain rfl := Option.some.inj hq
      have := he.1; omega
    have hbeh : ∀ q ∈ l2, q.flow = p.flow → q.start < 0 := fun q hq hf => by
      by_cases g : q.start < 0
      · exact g
      · exfalso
        obtain ⟨r1, r2, rfl⟩ := List.append_of_mem hq
        have := o.pf (l1 ++ p :: r1) q r2 (by rw [e]; simp) (by omega) p (by simp) hf.symm
        have := he.1; omega
    refine ⟨[untold (beg x.now p)], hL, hS, ?_, ?_, ?_, ?_, ?_, ?_, ?_, ?_, ?_, ?_⟩
    · intro m1 q m2 es
      rcases split3 es with ⟨r, rfl, rfl⟩ | ⟨rfl, rfl, rfl⟩ | ⟨r, rfl, rfl⟩
      · exact o.sq m1 q (r ++ p :: l2) (by rw [e]; simp)
      · exact o.sq m1 p m2 e
      · have := o.sq (l1 ++ p :: r) q m2 (by rw [e]; simp)
        rw [this, List.countP_append, List.countP_append, List.countP_cons, List.countP_cons]
        rfl
    · intro m1 q m2 es h0 z hz hf
      rcases split3 es with ⟨r, rfl, rfl⟩ | ⟨rfl, rfl, rfl⟩ | ⟨r, rfl, rfl⟩
      · exact o.pf m1 q (r ++ p :: l2) (by rw [e]; simp) h0 z hz hf
      · exact ha z hz hf
      · have k := o.pf (l1 ++ p :: r) q m2 (by rw [e]; simp) h0
        rcases mem_beg hz with rfl | hz
        · exact hn
        · exact k z hz hf
    · intro m1 q m2 es z hz hf hd
      rcases split3 es with ⟨r, rfl, rfl⟩ | ⟨rfl, rfl, rfl⟩ | ⟨r, rfl, rfl⟩
      · exact o.dr m1 q (r ++ p :: l2) (by rw [e]; simp) z hz hf hd
      · exact o.dr m1 p m2 e z hz hf hd
      · rcases mem_beg hz with rfl | hz
        · have : p.dropped = true := hd
          rw [he.2.1] at this; cases this
        · exact o.dr (l1 ++ p :: r) q m2 (by rw [e]; simp) z hz hf hd
    · intro q hq hd
      rcases mem_beg hq with rfl | hq
      · have : p.dropped = true := hd
        rw [he.2.1] at this; cases this
      · exact o.dz q (by rw [e]; exact hq) hd
    · intro q hq hf
      rcases mem_beg hq with rfl | hq
      · have := o.od p (by rw [e]; simp) hf
        exact ⟨this.1, this.2.1, by show p.ready ≤ x.now + 1; omega⟩
      · have := o.od q (by rw [e]; exact hq) hf
        exact ⟨this.1, this.2.1, by show q.ready ≤ x.now + 1; omega⟩
    · rw [List.length_append, List.length_append, o.bl]; rfl
    · intro j i hj
      rcases get_snoc hj with g | ⟨rfl, rfl⟩
      · obtain ⟨q, hq, hB⟩ := o.ba j i g
        have hne : i ≠ l1.length := fun c => hni (by rw [← c]; exact List.mem_of_getElem? g)
        rw [e] at hq
        exact ⟨q, get_beg hq hne _, by rw [List.getElem?_append_left (List.getElem?_eq_some_iff.1 hB).1]; exact hB⟩
      · exact ⟨beg x.now p, get_at, by rw [← o.bl, List.getElem?_append_right (Nat.le_refl _), Nat.sub_self]; rfl⟩
    · intro b1 b c b2 es
      have es' : B ++ [untold (beg x.now p)] = (b1 ++ [b]) ++ c :: b2 := by rw [es]; simp
      rcases snoc_split es' with ⟨_, h2, rfl⟩ | ⟨m, _, h2⟩
      · have hbB : b ∈ B := by rw [← h2]; simp
        obtain ⟨q, hq, rfl, h0⟩ := o.mem hbB
        have := hall q hq
        unfold done at this
        show q.start + q.size ≤ x.now
        omega
      · exact o.bo b1 b c m (by rw [h2]; simp)
    · rw [List.nodup_append]
      refine ⟨o.nd, by simp, ?_⟩
      intro a ha' c hc
      obtain rfl := List.mem_singleton.1 hc
      rintro rfl
      exact hni ha'
    · intro k
      rw [List.filter_append, o.fb k, e]
      simp only [List.filter_append, List.filter_cons, List.filter_nil]
      have n1 : stf k p = false := by unfold stf; have := he.1; simp; intro _; omega
      have hf : (untold (beg x.now p)).flow = p.flow := rfl
      rw [n1, hf]
      by_cases hk : p.flow = k
      · have n2 : stf k (beg x.now p) = true := by
          unfold stf
          simp only [Bool.and_eq_true, decide_eq_true_eq]
          exact ⟨hk, hn⟩
        have n3 : l2.filter (stf k) = [] := filter_mem_nil fun q hq => by
          unfold stf
          by_cases g : q.flow = k
          · have := hbeh q hq (by rw [g, hk]); simp; intro _; omega
          · simp [g]
        rw [n2, n3]
        simp [hk]
      · have n2 : stf k (beg x.now p) = false := by
          unfold stf
          have : ¬ (beg x.now p).flow = k := hk
          simp [this]
        rw [n2]
        simp [hk]

theorem untold_split {pk pk' : List Pk} (e : pk'.map untold = pk.map untold) {m1 m2 : List Pk} {q : Pk} (h : pk' = m1 ++ q :: m2) : ∃ n1 z n2, pk = n1 ++ z :: n2 ∧ n1.map untold = m1.map untold ∧ untold z = untold q := by
  rw [h, List.map_append, List.map_cons] at e
  obtain ⟨n1, r, e1, e2, e3⟩ := List.map_eq_append_iff.1 e.symm
  obtain ⟨z, n2, e4, e5, _⟩ := List.map_eq_cons_iff.1 e3
  exact ⟨n1, z, n2, by rw [e1, e4], e2, e5⟩
theorem countP_untold {n m : List Pk} (e : n.map untold = m.map untold) (k : Int) : (n.countP fun q => decide (q.flow = k)) = m.countP fun q => decide (q.flow = k) := by
  have : (n.map untold).countP (fun q => decide (q.flow = k)) = (m.map untold).countP fun q => decide (q.flow = k) := by rw [e]
  rw [List.countP_map, List.countP_map] at this
  exact this
theorem filter_untold {n m : List Pk} (e : n.map untold = m.map untold) (k : Int) : (n.filter (stf k)).map untold = (m.filter (stf k)).map untold := by
  have : (n.map untold).filter (stf k) = (m.map untold).filter (stf k) := by rw [e]
  rw [List.filter_map, List.filter_map] at this
  exact this
theorem od_gone {x : Ln} {B : List Pk} (o : Od x B) : Od x.gone.2 B := by
  have e := gone_untold x.now x.began x.pk
  have hL := o.inv.gone
  have hS := stb_gone o.stb
  refine ⟨hL, hS, ?_, ?_, ?_, ?_, ?_, o.bl, ?_, o.bo, o.nd, ?_⟩
  · intro m1 q m2 h
    obtain ⟨n1, z, n2, e1, e2, e3⟩ := untold_split e h
    have := o.sq n1 z n2 e1
    rw [ut_seq e3, ut_flow e3, countP_untold e2] at this
    exact this
  · intro m1 q m2 h h0 y hy hf
    obtain ⟨n1, z, n2, e1, e2, e3⟩ := untold_split e h
    obtain ⟨w, hw, ew⟩ := mem_untold e2.symm hy
    have := o.pf n1 z n2 e1 (by rw [ut_start e3]; exact h0) w hw (by rw [ut_flow ew, ut_flow e3]; exact hf)
    rw [ut_start ew] at this; exact this
  · intro m1 q m2 h y hy hf hd
    obtain ⟨n1, z, n2, e1, e2, e3⟩ := untold_split e h
    obtain ⟨w, hw, ew⟩ := mem_untold e2.symm hy
    have := o.dr n1 z n2 e1 w hw (by rw [ut_flow ew, ut_flow e3]; exact hf) (by rw [ut_dropped ew]; exact hd)
    rw [ut_dropped e3] at this; exact this
  · intro p hp hd
    obtain ⟨w, hw, ew⟩ := mem_untold e hp
    have := o.dz w hw (by rw [ut_dropped ew]; exact hd)
    rw [ut_flow ew, ut_start ew] at this; exact this
  · intro p hp hf
    obtain ⟨w, hw, ew⟩ := mem_untold e hp
    have := o.od w hw (by rw [ut_flow ew]; exact hf)
    rw [ut_flow ew, ut_ready ew] at this; exact this
  · intro j i hj
    obtain ⟨p, hp, hB⟩ := o.ba j i hj
    obtain ⟨q, hq, eq⟩ := get_untold e.symm hp
    exact ⟨q, hq, by rw [eq]; exact hB⟩
  · intro k
    rw [o.fb k]
    exact (filter_untold e k).symm
theorem drp_started {now k : Int} {p : Pk} (h : 0 ≤ p.start) : drp now k p = p := by
  unfold drp; rw [if_neg (by omega)]
theorem od_torn {x : Ln} {B : List Pk} (o : Od x B) {k : Int} {st : Stt} (ha : x.at? k = some st) (hi : st.is = 0) : Od { x with fl := x.fl.set k.toNat ⟨st.f, 1⟩, pk := x.pk.map (drp x.now k) } B := by
  obtain ⟨k0, hk⟩ := at_some ha
  have hl : k.toNat < x.fl.length := (List.getElem?_eq_some_iff.1 hk).1
  have s := same_drp (now := x.now) k
  have sp : ∀ m1 q m2, x.pk.map (drp x.now k) = m1 ++ q :: m2 → ∃ n1 z n2, x.pk = n1 ++ z :: n2 ∧ m1 = n1.map (drp x.now k) ∧ q = drp x.now k z := fun m1 q m2 h => by
    obtain ⟨n1, r, e1, e2, e3⟩ := List.map_eq_append_iff.1 h
    obtain ⟨z, n2, e4, e5, _⟩ := List.map_eq_cons_iff.1 e3
    exact ⟨n1, z, n2, by rw [e1, e4], e2.symm, e5.symm⟩
  refine ⟨o.inv.torn ha hi, stb_torn o.stb _ k, ?_, ?_, ?_, ?_, ?_, o.bl, ?_, o.bo, o.nd, ?_⟩
  · intro m1 q m2 h
    obtain ⟨n1, z, n2, e1, rfl, rfl⟩ := sp m1 q m2 h
    have := o.sq n1 z n2 e1
    have hq : (drp x.now k z).seq = z.seq := by unfold drp; split <;> rfl
    rw [hq, this, List.countP_map, s.flow]
    congr 1
    refine List.countP_congr fun y _ => ?_
    simp only [Function.comp, s.flow]
  · intro m1 q m2 h h0 y hy hf
    obtain ⟨n1, z, n2, e1, rfl, rfl⟩ := sp m1 q m2 h
    obtain ⟨w, hw, rfl⟩ := List.mem_map.1 hy
    rw [s.st] at h0 ⊢
    rw [s.flow, s.flow] at hf
    exact o.pf n1 z n2 e1 h0 w hw hf
  · intro m1 q m2 h y hy hf hd
    obtain ⟨n1, z, n2, e1, rfl, rfl⟩ := sp m1 q m2 h
    obtain ⟨w, hw, rfl⟩ := List.mem_map.1 hy
    rw [s.flow, s.flow] at hf
    by_cases hwd : w.dropped = true
    · have := o.dr n1 z n2 e1 w hw hf hwd
      cases hz : (drp x.now k z).dropped with
      | true => rfl
      | false => have := s.dr z hz; rw [o.dr n1 z n2 e1 w hw hf hwd] at this; cases this
    · have hwd' : w.dropped = false := by simpa using hwd
      have hc : w.flow = k ∧ w.start < 0 ∧ (w.ready < 0 ∨ x.now < w.ready) := by
        unfold drp at hd
        split at hd
        · assumption
        · rw [hwd'] at hd; cases hd
      have hzs : z.start < 0 := by
        by_cases g : z.start < 0
        · exact g
        · have := o.pf n1 z n2 e1 (by omega) w hw hf; omega
      have hzr : z.ready < 0 ∨ x.now < z.ready := by
        by_cases g : z.ready < 0
        · exact .inl g
        · have := ready_order o.inv e1 (by omega) (by omega) w hw hf
          omega
      unfold drp
      rw [if_pos ⟨by omega, hzs, hzr⟩]
  · intro p hp hd
    obtain ⟨w, hw, rfl⟩ := List.mem_map.1 hp
    rw [s.flow, s.st]
    by_cases hwd : w.dropped = true
    · have := o.dz w hw hwd
      refine ⟨this.1, this.2.1, ?_⟩
      rw [is_set _ _ _ _ _ hl this.1]
      split
      · decide
      · exact this.2.2
    · have hwd' : w.dropped = false := by simpa using hwd
      have hc : w.flow = k ∧ w.start < 0 ∧ (w.ready < 0 ∨ x.now < w.ready) := by
        unfold drp at hd
        split at hd
        · assumption
        · rw [hwd'] at hd; cases hd
      refine ⟨by omega, hc.2.1, ?_⟩
      rw [is_set _ _ _ _ _ hl (by omega), if_pos (by omega)]
      decide
  · intro p hp hf
    obtain ⟨w, hw, rfl⟩ := List.mem_map.1 hp
    rw [s.flow] at hf ⊢
    rw [s.ready]
    exact o.od w hw hf
  · intro j i hj
    obtain ⟨p, hp, hB⟩ := o.ba j i hj
    obtain ⟨p', hp', h0⟩ := o.inv.bg i (List.mem_of_getElem? hj)
    obtain rfl : p = p' := Option.some.inj (hp.symm.trans hp')
    refine ⟨p, ?_, hB⟩
    show (x.pk.map (drp x.now k))[i]? = _
    rw [List.getElem?_map, hp]
    show some (drp x.now k p) = some p
    rw [drp_started h0]
  · intro j
    show _ = ((x.pk.map (drp x.now k)).filter (stf j)).map untold
    rw [o.fb j, List.filter_map]
    have h1 : (stf j ∘ drp x.now k) = stf j := funext fun p => by
      unfold stf
      simp only [Function.comp, s.flow, s.st]
    rw [h1, List.map_map]
    refine List.map_congr_left fun p hp => ?_
    have := (List.mem_filter.1 hp).2
    unfold stf at this
    simp only [Bool.and_eq_true, decide_eq_true_eq] at this
    show untold p = untold (drp x.now k p)
    rw [drp_started this.2]
theorem od_teardown {x : Ln} {B : List Pk} (o : Od x B) (k : Int) : Od (x.teardown k).2 B := teardown_cases (P := fun y => Od y B) o fun _ ha hi => od_away (od_torn o ha hi)
end Go.Proofs.YtcnmajndackohaaGreatDoor
/-
  Plain: what the program's line is, held against the document's.
-/
namespace Go.Proofs.YtcnmajndackohaaGreatDoor

/-- Does it wait? -/
def wt (p : Pk) : Bool := decide (p.start < 0) && !p.dropped
def hdB (k r : Int) (p : Pk) : Bool := decide (p.flow = k) && wt p && decide (r ≤ p.seq)
def quB (rel : Int → Int) (p : Pk) : Bool := decide (0 ≤ p.flow) && wt p && decide (p.seq < rel p.flow)
def othB (p : Pk) : Bool := decide (p.flow = -1) && wt p
/-- What began and has not been told. -/
def untoldL (pk : List Pk) (l : List Nat) : List Pk := (l.filterMap fun i => pk[i]?).filter fun p => !p.told
theorem wt_iff (p : Pk) : wt p = true ↔ p.start < 0 ∧ p.dropped = false := by unfold wt; simp
theorem hdB_iff (k r : Int) (p : Pk) : hdB k r p = true ↔ p.flow = k ∧ wt p = true ∧ r ≤ p.seq := by unfold hdB; simp [and_assoc]
theorem quB_iff (rel : Int → Int) (p : Pk) : quB rel p = true ↔ 0 ≤ p.flow ∧ wt p = true ∧ p.seq < rel p.flow := by unfold quB; simp [and_assoc]
theorem othB_iff (p : Pk) : othB p = true ↔ p.flow = -1 ∧ wt p = true := by unfold othB; simp

/-- The program's line s is the document's line x; of each flow k the first rel k packets have gone into the queue. -/
structure Sim (x : Ln) (s : PS) (rel : Int → Int) : Prop where
  od : ∃ B, Od x B
  rr : ∀ p ∈ x.pk, quB rel p = true → 0 ≤ p.ready ∧ p.ready ≤ x.now
  lg : ∀ p ∈ x.pk, 0 ≤ p.flow → wt p = true → isOf x.fl p.flow = 1 → p.seq < rel p.flow
  aw : ∀ p ∈ x.pk, 0 ≤ p.flow → wt p = true → isOf x.fl p.flow < 2
  tl : ∀ p ∈ x.pk, p.told = true → 0 ≤ p.start ∧ p.start + p.size ≤ x.now
  rb : ∀ k : Int, rel k ≤ x.seqOf k
  is : ∀ st ∈ x.fl, st.is = 0 ∨ st.is = 1 ∨ st.is = 2
  now : s.now = x.now
  num : s.num = x.fl.length
  dom : ∀ k, (∃ f, s.fs k = some f) ↔ ∃ st, x.fl[k]? = some st ∧ st.is < 2
  val : ∀ k f, s.fs k = some f → ∃ st, x.fl[k]? = some st ∧ f.f = st.f ∧ f.torn = decide (st.is = 1) ∧ f.br = x.seqOf k ∧ f.wa = x.waiting k ∧ f.L = x.pk.filter (hdB k (rel k)) ∧ Gok st.f k x.pk f.g
  H : s.H.Perm ((x.pk.filter (quB rel)).map fun p => enP p (dueOf x.fl p.flow))
  O : s.O = x.pk.filter othB
  br : s.br = x.seqOf (-1)
  G : s.G = untoldL x.pk x.began
section
variable {x : Ln} {s : PS} {rel : Int → Int}
theorem Sim.inv (h : Sim x s rel) : Lnv x := h.od.choose_spec.inv
theorem Sim.sq (h : Sim x s rel) : ∀ l1 p l2, x.pk = l1 ++ p :: l2 → p.seq = ((l1.countP fun q => decide (q.flow = p.flow) : Nat) : Int) := h.od.choose_spec.sq
theorem Sim.after (h : Sim x s rel) {a b : List Pk} {p q : Pk} (e : x.pk = a ++ p :: b) (hq : q ∈ b) (hf : q.flow = p.flow) : p.seq < q.seq := by
  obtain ⟨b1, b2, rfl⟩ := List.append_of_mem hq
  have h1 := h.sq a p _ e
  have h2 := h.sq (a ++ p :: b1) q b2 (by rw [e]; simp)
  rw [h1, h2, List.countP_append, List.countP_cons_of_pos (by simp [hf]), hf]
  omega
theorem Sim.ahead (h : Sim x s rel) {a b : List Pk} {p q : Pk} (e : x.pk = a ++ p :: b) (hq : q ∈ a) (hf : q.flow = p.flow) : q.seq < p.seq := by
  obtain ⟨a1, a2, rfl⟩ := List.append_of_mem hq
  exact h.after (a := a1) (b := a2 ++ p :: b) (by rw [e]; simp) (by simp) hf.symm
theorem due_at {fl : List Stt} {k : Nat} {st : Stt} (h : fl[k]? = some st) : dueOf fl (k : Int) = st.f.d := by unfold dueOf; rw [Int.toNat_natCast, h]
theorem is_at {fl : List Stt} {k : Nat} {st : Stt} (h : fl[k]? = some st) : isOf fl (k : Int) = st.is := by unfold isOf; rw [Int.toNat_natCast, h]
theorem is_none' {fl : List Stt} {k : Nat} (h : fl[k]? = none) : isOf fl (k : Int) = 2 := by unfold isOf; rw [Int.toNat_natCast, h]
theorem toTick_le {r now : Int} (h : toTick r ≤ now) (hn : now ≤ 1000000000000) : 0 ≤ r ∧ r ≤ now ∧ toTick r = r := by
  unfold toTick never at *
  split at h
  · omega
  · rename_i g; rw [if_neg g]; omega
theorem toTick_of {r : Int} (h : 0 ≤ r) : toTick r = r := by unfold toTick; rw [if_neg (by omega)]
/-- One packet goes into the queue: nothing changes that the document sees. -/
theorem Sim.rel1 (h : Sim x s rel) (hn : x.now ≤ 1000000000000) {s' : PS} (hr : Rel1 s s') : ∃ rel', Sim x s' rel' := by
  obtain ⟨k, f, p, tl, v, vh, o, H, hf, hL, hrd, hHp, hP, rfl⟩ := hr
  obtain ⟨st, hst, e1, e2, e3, e4, e5, e6⟩ := h.val k f hf
  rw [h.now] at hrd
  obtain ⟨r0, r1, r2⟩ := toTick_le hrd hn
  rw [hL] at e5
  obtain ⟨a, b, ep, ha, hp, etl⟩ := List.filter_eq_cons_iff.1 e5.symm
  obtain ⟨pf, pw, ps⟩ := (hdB_iff _ _ _).1 hp
  have hp' : p ∈ x.pk := by rw [ep]; simp
  have hk0 : (0 : Int) ≤ (k : Int) := by omega
  -- the new numbers
  have hrel : ∀ j, (if j = (k : Int) then p.seq + 1 else rel j) = (if j = (k : Int) then p.seq + 1 else rel j) := fun _ => rfl
  have hq : ∀ q ∈ x.pk, q ≠ p ∨ True → quB (fun j => if j = (k : Int) then p.seq + 1 else rel j) q = true → quB rel q = true ∨ (q.flow = k ∧ q.seq ≤ p.seq ∧ wt q = true) := by
    intro q _ _ hq
    obtain ⟨q0, q1, q2⟩ := (quB_iff _ _).1 hq
    by_cases e : q.flow = (k : Int)
    · rw [if_pos e] at q2; exact .inr ⟨e, by omega, q1⟩
    · rw [if_neg e] at q2; exact .inl ((quB_iff _ _).2 ⟨q0, q1, q2⟩)
  have hA : a.filter (quB fun j => if j = (k : Int) then p.seq + 1 else rel j) = a.filter (quB rel) := by
    refine List.filter_congr fun q hq => ?_
    rw [Bool.eq_iff_iff, quB_iff, quB_iff]
    by_cases e : q.flow = (k : Int)
    · rw [if_pos e, e]
      have hno := ha q hq
      have hlt := h.ahead ep hq (e.trans pf.symm)
      constructor
      · rintro ⟨_, w, _⟩
        refine ⟨hk0, w, ?_⟩
        rcases Int.lt_or_le q.seq (rel k) with g | g
        · exact g
        · exact absurd ((hdB_iff _ _ _).2 ⟨e, w, g⟩) hno
      · rintro ⟨_, w, _⟩; exact ⟨hk0, w, by omega⟩
    · rw [if_neg e]
  have hB : b.filter (quB fun j => if j = (k : Int) then p.seq + 1 else rel j) = b.filter (quB rel) := by
    refine List.filter_congr fun q hq => ?_
    rw [Bool.eq_iff_iff, quB_iff, quB_iff]
    by_cases e : q.flow = (k : Int)
    · rw [if_pos e, e]
      have hlt := h.after ep hq (e.trans pf.symm)
      constructor
      · rintro ⟨_, _, g⟩; omega
      · rintro ⟨_, _, g⟩; omega
    · rw [if_neg e]
  have hpq : quB (fun j => if j = (k : Int) then p.seq + 1 else rel j) p = true := (quB_iff _ _).2 ⟨by omega, pw, by rw [if_pos pf]; omega⟩
  have hpn : quB rel p = false := by
    rw [← Bool.not_eq_true]
    intro g
    have := ((quB_iff _ _).1 g).2.2
    rw [pf] at this
    omega
  refine ⟨fun j => if j = (k : Int) then p.seq + 1 else rel j, ?_⟩
  refine ⟨h.od, ?_, ?_, h.aw, h.tl, ?_, h.is, h.now, h.num, ?_, ?_, ?_, h.O, h.br, h.G⟩
  · intro q hq hx
    rw [ep] at hq
    rcases List.mem_append.1 hq with g | g
    · have : q ∈ a.filter (quB rel) := by rw [← hA]; exact List.mem_filter.2 ⟨g, hx⟩
      exact h.rr q (by rw [ep]; exact hq) (List.mem_filter.1 this).2
    · rcases List.mem_cons.1 g with rfl | g
      · exact ⟨r0, r1⟩
      · have : q ∈ b.filter (quB rel) := by rw [← hB]; exact List.mem_filter.2 ⟨g, hx⟩
        exact h.rr q (by rw [ep]; exact hq) (List.mem_filter.1 this).2
  · intro q hq q0 qw qi
    have := h.lg q hq q0 qw qi
    by_cases e : q.flow = (k : Int)
    · show q.seq < if q.flow = (k : Int) then p.seq + 1 else rel q.flow
      rw [if_pos e]; rw [e] at this; omega
    · show q.seq < if q.flow = (k : Int) then p.seq + 1 else rel q.flow
      rw [if_neg e]; exact this
  · intro j
    show (if j = (k : Int) then p.seq + 1 else rel j) ≤ _
    by_cases e : j = (k : Int)
    · rw [if_pos e, h.sq a p b ep, e]
      unfold Ln.seqOf
      rw [ep, List.countP_append, List.countP_cons_of_pos (by simp [pf]), pf]
      omega
    · rw [if_neg e]; exact h.rb j
  · intro j
    show (∃ g, upd s.fs k _ j = some g) ↔ _
    by_cases e : j = k
    · subst e
      rw [upd_same]
      constructor
      · intro _; exact (h.dom j).1 ⟨f, hf⟩
      · intro _; exact ⟨_, rfl⟩
    · rw [upd_far _ _ e]; exact h.dom j
  · intro j g hg
    have hg' : upd s.fs k _ j = some g := hg
    by_cases e : j = k
    · subst e
      rw [upd_same] at hg'
      obtain rfl := Option.some.inj hg'
      refine ⟨st, hst, e1, e2, e3, e4, ?_, e6⟩
      show tl = x.pk.filter (hdB j (if (j : Int) = (j : Int) then p.seq + 1 else rel j))
      rw [if_pos rfl, ep, List.filter_append]
      have f1 : a.filter (hdB j (p.seq + 1)) = [] := by
        rw [List.filter_eq_nil_iff]
        intro q hq g
        obtain ⟨g1, _, g3⟩ := (hdB_iff _ _ _).1 g
        have := h.ahead ep hq (g1.trans pf.symm)
        omega
      have f2 : (p :: b).filter (hdB j (p.seq + 1)) = b.filter (hdB j (rel j)) := by
        rw [List.filter_cons_of_neg (by rw [hdB_iff]; omega)]
        refine List.filter_congr fun q hq => ?_
        rw [Bool.eq_iff_iff, hdB_iff, hdB_iff]
        constructor
        · rintro ⟨c1, c2, c3⟩; exact ⟨c1, c2, by omega⟩
        · rintro ⟨c1, c2, _⟩
          have := h.after ep hq (c1.trans pf.symm)
          exact ⟨c1, c2, by omega⟩
      rw [f1, f2, List.nil_append, etl]
    · rw [upd_far _ _ e] at hg'
      obtain ⟨st', h1, h2, h3, h4, h5, h6, h7⟩ := h.val j g hg'
      refine ⟨st', h1, h2, h3, h4, h5, ?_, h7⟩
      show g.L = x.pk.filter (hdB j (if (j : Int) = (k : Int) then p.seq + 1 else rel j))
      rw [if_neg (by omega)]; exact h6
  · refine hP.trans ?_
    rw [e1]
    have ed : dueOf x.fl p.flow = st.f.d := by rw [pf]; exact due_at hst
    rw [ep, List.filter_append, List.filter_cons_of_pos hpq, hA, hB]
    have hH := h.H
    rw [ep, List.filter_append, List.filter_cons_of_neg (by rw [hpn]; decide)] at hH
    rw [List.map_append, List.map_cons, ed]
    rw [List.map_append] at hH
    exact (hH.cons _).trans List.perm_middle.symm
end
end Go.Proofs.YtcnmajndackohaaGreatDoor
/-
  Plain: busy, what is ready, and the flows that linger: the program's line and the document's.
-/
namespace Go.Proofs.YtcnmajndackohaaGreatDoor

section
variable {x : Ln} {s : PS} {rel : Int → Int}
theorem untold_mem {pk : List Pk} {l : List Nat} {p : Pk} (h : p ∈ untoldL pk l) : (∃ i ∈ l, pk[i]? = some p) ∧ p.told = false := by
  unfold untoldL at h
  rw [List.mem_filter, List.mem_filterMap] at h
  exact ⟨h.1, by simpa using h.2⟩
theorem Sim.last (h : Sim x s rel) (hb : x.busy = true) : ∃ p, x.last = some p ∧ s.G.getLast? = some p ∧ x.now < p.start + p.size ∧ p ∈ x.pk := by
  obtain ⟨l1, p, l2, e, hl, hg, h0, h1, _⟩ := h.inv.bsy hb
  have hp : x.pk[l1.length]? = some p := by rw [e]; exact get_at
  have hm : p ∈ x.pk := by rw [e]; simp
  have ht : p.told = false := by
    rw [← Bool.not_eq_true]
    intro g
    have := h.tl p hm g
    omega
  refine ⟨p, hl, ?_, h1, hm⟩
  rw [h.G]
  unfold untoldL
  obtain ⟨l, hl'⟩ : ∃ l, x.began = l ++ [l1.length] := by
    rcases List.eq_nil_or_concat x.began with g | ⟨l, i, g⟩
    · rw [g] at hg; cases hg
    · rw [List.concat_eq_append] at g
      rw [g] at hg
      simp at hg
      exact ⟨l, by rw [g, hg]⟩
  rw [hl', List.filterMap_append, List.filter_append]
  simp [hp, ht]
theorem Sim.busy (h : Sim x s rel) : s.busy = x.busy := by
  cases hb : x.busy with
  | true =>
    obtain ⟨p, _, h2, h3, _⟩ := h.last hb
    unfold PS.busy
    rw [h2, h.now]
    simpa using h3
  | false =>
    have hi := h.inv.idle hb
    unfold PS.busy
    cases hg : s.G.getLast? with
    | none => rfl
    | some p =>
      have hm := List.mem_of_getLast? hg
      rw [h.G] at hm
      obtain ⟨⟨i, hi', hp⟩, _⟩ := untold_mem hm
      obtain ⟨q, hq, h0⟩ := h.inv.bg i hi'
      rw [hp] at hq
      obtain rfl := Option.some.inj hq
      have := hi p (List.mem_of_getElem? hp)
      unfold done at this
      simp only [h.now]
      rw [decide_eq_false_iff_not]
      omega
theorem Sim.fl1 (h : Sim x s rel) {p : Pk} (hp : p ∈ x.pk) : 0 ≤ p.flow ∨ p.flow = -1 := by
  rcases Int.lt_or_le p.flow 0 with g | g
  · exact .inr (h.od.choose_spec.od p hp g).1
  · exact .inl g
theorem Sim.carries (h : Sim x s rel) : s.carries = (x.busy && x.ofFlow) := by
  unfold PS.carries
  rw [h.busy]
  cases hb : x.busy with
  | false => rfl
  | true =>
    obtain ⟨p, h1, h2, _, hm⟩ := h.last hb
    unfold Ln.ofFlow
    rw [h1, h2]
    rcases h.fl1 hm with g | g
    · simp [g]; omega
    · simp [g]
/-- All that is ready has gone into the queue. -/
def Rld (s : PS) : Prop := ∀ k f p tl, s.fs k = some f → f.L = p :: tl → s.now < toTick p.ready
theorem Sim.el (h : Sim x s rel) (hr : Rld s) : ∀ p ∈ x.pk, quB rel p = elB x.now true p := by
  intro p hp
  rw [Bool.eq_iff_iff, quB_iff, elB_iff]
  constructor
  · intro g
    obtain ⟨a, b, c⟩ := g
    have := h.rr p hp ((quB_iff _ _).2 ⟨a, b, c⟩)
    obtain ⟨w1, w2⟩ := (wt_iff p).1 b
    exact ⟨⟨w1, w2, this.1, this.2⟩, by simp [a]⟩
  · rintro ⟨⟨w1, w2, r0, r1⟩, hf⟩
    have f0 : 0 ≤ p.flow := hf.2 rfl
    have hw := (wt_iff p).2 ⟨w1, w2⟩
    refine ⟨f0, hw, ?_⟩
    rcases Int.lt_or_le p.seq (rel p.flow) with g | g
    · exact g
    · exfalso
      have his := h.aw p hp f0 hw
      obtain ⟨k, hk⟩ : ∃ k : Nat, p.flow = (k : Int) := ⟨p.flow.toNat, by omega⟩
      obtain ⟨st, hst⟩ : ∃ st, x.fl[k]? = some st := by
        cases hst : x.fl[k]? with
        | none => rw [hk, is_none' hst] at his; omega
        | some st => exact ⟨st, rfl⟩
      rw [hk, is_at hst] at his
      obtain ⟨f, hf'⟩ := (h.dom k).2 ⟨st, hst, his⟩
      obtain ⟨_, _, _, _, _, _, e5, _⟩ := h.val k f hf'
      have hin : p ∈ f.L := by rw [e5]; exact List.mem_filter.2 ⟨hp, (hdB_iff _ _ _).2 ⟨hk, hw, by rw [← hk]; exact g⟩⟩
      cases hL : f.L with
      | nil => rw [hL] at hin; cases hin
      | cons q tl =>
        have hh := hr k f q tl hf' hL
        rw [h.now] at hh
        rw [hL] at e5
        obtain ⟨a, b, ep, _, hq, etl⟩ := List.filter_eq_cons_iff.1 e5.symm
        obtain ⟨qf, _, _⟩ := (hdB_iff _ _ _).1 hq
        rw [hL] at hin
        rcases List.mem_cons.1 hin with rfl | hin
        · rw [toTick_of r0] at hh; omega
        · rw [← etl] at hin
          have hb := (List.mem_filter.1 hin).1
          obtain ⟨b1, b2, rfl⟩ := List.append_of_mem hb
          have := ready_order h.inv (l1 := a ++ q :: b1) (p := p) (l2 := b2) (by rw [ep]; simp) f0 r0 q (by simp) (qf.trans hk.symm)
          rw [toTick_of this.1] at hh
          omega
theorem Sim.some_ready (h : Sim x s rel) (hr : Rld s) : 0 < s.H.length ↔ (x.first true).isSome = true := by
  rw [h.H.length_eq, List.length_map]
  constructor
  · intro g
    obtain ⟨p, hp⟩ := List.exists_mem_of_length_pos g
    obtain ⟨h1, h2⟩ := List.mem_filter.1 hp
    cases hf : x.first true with
    | some b => rfl
    | none =>
      have := first_none hf p h1
      rw [← h.el hr p h1, h2] at this
      cases this
  · intro g
    obtain ⟨b, hb⟩ := Option.isSome_iff_exists.1 g
    obtain ⟨l1, p, l2, e, _, he, _⟩ := first_some hb
    have hp : p ∈ x.pk := by rw [e]; simp
    exact List.length_pos_of_mem (List.mem_filter.2 ⟨hp, by rw [h.el hr p hp]; exact he⟩)
theorem gone_get {fl : List Stt} {k : Nat} : (fl.map gone1)[k]? = (fl[k]?).map gone1 := List.getElem?_map
/-- The flows that linger are away, just where the document says so. -/
theorem Sim.settle (h : Sim x s rel) (hr : Rld s) : Sim x.away s.settle rel ∧ Rld s.settle := by
  have hc : (0 < s.H.length ∨ s.carries = true) ↔ ((x.first true).isSome = true ∨ (x.busy = true ∧ x.ofFlow = true)) := by
    rw [h.some_ready hr, h.carries]; simp
  unfold PS.settle Ln.away
  by_cases g : (x.first true).isSome = true ∨ (x.busy = true ∧ x.ofFlow = true)
  · rw [if_pos g, if_pos (hc.2 g)]
    exact ⟨h, hr⟩
  · rw [if_neg g, if_neg (fun e => g (hc.1 e))]
    have hH : s.H = [] := List.eq_nil_of_length_eq_zero (by
      have : ¬ 0 < s.H.length := fun e => g (hc.1 (.inl e))
      omega)
    have hq : ∀ p ∈ x.pk, quB rel p = false := by
      intro p hp
      rw [← Bool.not_eq_true]
      intro e
      have := h.H.length_eq
      rw [hH, List.length_map] at this
      have h2 := List.length_pos_of_mem (List.mem_filter.2 ⟨hp, e⟩)
      simp at this
      omega
    obtain ⟨B, hB⟩ := h.od
    have hod : ∃ B, Od { x with fl := x.fl.map gone1 } B := ⟨B, by
      have := od_away hB
      unfold Ln.away at this
      rwa [if_neg g] at this⟩
    refine ⟨⟨hod, h.rr, ?_, ?_, h.tl, h.rb, ?_, h.now, ?_, ?_, ?_, ?_, h.O, h.br, h.G⟩, ?_⟩
    · intro p hp p0 pw pi
      have e : isOf (x.fl.map gone1) p.flow = 1 := pi
      rw [is_gone] at e
      split at e <;> omega
    · intro p hp p0 pw
      show isOf (x.fl.map gone1) p.flow < 2
      rw [is_gone]
      have h1 := h.aw p hp p0 pw
      split
      · rename_i e
        have := h.lg p hp p0 pw e
        have h2 := hq p hp
        rw [(quB_iff _ _).2 ⟨p0, pw, this⟩] at h2
        cases h2
      · exact h1
    · intro st hst
      have hst' : st ∈ x.fl.map gone1 := hst
      obtain ⟨st0, h0, rfl⟩ := List.mem_map.1 hst'
      have := h.is st0 h0
      unfold gone1
      split
      · exact .inr (.inr rfl)
      · exact this
    · show s.num = (x.fl.map gone1).length
      rw [List.length_map]; exact h.num
    · intro k
      show (∃ f, fsL s.fs (fun _ => false) k = some f) ↔ ∃ st, (x.fl.map gone1)[k]? = some st ∧ st.is < 2
      rw [gone_get]
      constructor
      · rintro ⟨f, hf⟩
        have hf' := fsL_sub hf
        obtain ⟨st, h1, _, h3, _⟩ := h.val k f hf'
        obtain ⟨st', h4, h5⟩ := (h.dom k).1 ⟨f, hf'⟩
        rw [h1] at h4
        obtain rfl := Option.some.inj h4
        refine ⟨gone1 st, by rw [h1]; rfl, ?_⟩
        have ht : f.torn = false := by
          rw [← Bool.not_eq_true]
          intro e
          unfold fsL at hf
          rw [hf'] at hf
          simp [e] at hf
        rw [ht] at h3
        have h3' : ¬ st.is = 1 := by simpa using h3.symm
        unfold gone1
        rw [if_neg h3']; exact h5
      · rintro ⟨st, h1, h2⟩
        obtain ⟨st0, h3, rfl⟩ := Option.map_eq_some_iff.1 h1
        have h4 : st0.is < 2 ∧ ¬ st0.is = 1 := by
          unfold gone1 at h2
          split at h2
          · simp at h2
          · rename_i e; exact ⟨h2, e⟩
        obtain ⟨f, hf⟩ := (h.dom k).2 ⟨st0, h3, h4.1⟩
        obtain ⟨st', h5, _, h6, _⟩ := h.val k f hf
        rw [h3] at h5
        obtain rfl := Option.some.inj h5
        refine ⟨f, ?_⟩
        unfold fsL
        rw [hf]
        simp [h6, h4.2]
    · intro k f hf
      have hf' : s.fs k = some f := fsL_sub (left := fun _ => false) hf
      obtain ⟨st, h1, h2, h3, h4, h5, h6, h7⟩ := h.val k f hf'
      have ht : f.torn = false := by
        rw [← Bool.not_eq_true]
        intro e
        have hf2 : fsL s.fs (fun _ => false) k = some f := hf
        unfold fsL at hf2
        rw [hf'] at hf2
        simp [e] at hf2
      have h3' : ¬ st.is = 1 := by rw [ht] at h3; simpa using h3.symm
      have hg1 : gone1 st = st := by unfold gone1; rw [if_neg h3']
      refine ⟨st, ?_, h2, h3, h4, h5, h6, h7⟩
      show (x.fl.map gone1)[k]? = some st
      rw [gone_get, h1, Option.map_some, hg1]
    · have : x.pk.filter (quB rel) = [] := by
        rw [List.filter_eq_nil_iff]
        intro p hp
        rw [hq p hp]; decide
      show s.H.Perm ((x.pk.filter (quB rel)).map _)
      rw [hH, this]
      exact List.Perm.refl _
    · intro k f p tl hf hL
      exact hr k f p tl (fsL_sub (left := fun _ => false) hf) hL
end
end Go.Proofs.YtcnmajndackohaaGreatDoor
