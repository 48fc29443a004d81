import Derived.Test.YtcnmajndackohaaGreatDoorMg25
import Derived.Test.YtcnmajndackohaaGreatDoorMg04
import Derived.Deep.LoopGhost
/-
  Plain: what begins: the program's line and the document's, one tick later.
-/
namespace Go.Proofs.YtcnmajndackohaaGreatDoor

section
variable {x : Ln} {s : PS} {rel : Int → Int}
/-- The document's line where nothing begins. -/
theorem Sim.later (h : Sim x s rel) (hod : ∃ B, Od { x with now := x.now + 1 } B) : Sim { x with now := x.now + 1 } { s with now := s.now + 1 } rel := by
  refine ⟨hod, fun p hp hq => ?_, h.lg, h.aw, fun p hp ht => ?_, h.rb, h.is, ?_, h.num, h.dom, h.val, h.H, h.O, h.br, h.G⟩
  · have := h.rr p hp hq
    exact ⟨this.1, by show p.ready ≤ x.now + 1; omega⟩
  · have := h.tl p hp ht
    exact ⟨this.1, by show p.start + p.size ≤ x.now + 1; omega⟩
  · show s.now + 1 = x.now + 1
    rw [h.now]
theorem wt_beg (now : Int) (p : Pk) (h : 0 ≤ now) : wt (beg now p) = false := by
  rw [← Bool.not_eq_true, wt_iff]
  intro g
  have : (beg now p).start = now := rfl
  omega
theorem sk_beg (now : Int) (p : Pk) : (beg now p).sk = p.sk := rfl
theorem get_far {l1 l2 : List Pk} {p z : Pk} {i : Nat} (h : i ≠ l1.length) : (l1 ++ z :: l2)[i]? = (l1 ++ p :: l2)[i]? := by
  rcases Nat.lt_or_ge i l1.length with g | g
  · rw [List.getElem?_append_left g, List.getElem?_append_left g]
  · rw [List.getElem?_append_right g, List.getElem?_append_right g]
    obtain ⟨j, hj⟩ : ∃ j, i - l1.length = j + 1 := ⟨i - l1.length - 1, by omega⟩
    rw [hj]; rfl
theorem fm_congr {α β : Type} (f g : α → Option β) : ∀ (l : List α), (∀ a ∈ l, f a = g a) → l.filterMap f = l.filterMap g
  | [], _ => rfl
  | a :: l, h => by
    rw [List.filterMap_cons, List.filterMap_cons, h a (List.mem_cons_self ..), fm_congr f g l fun b hb => h b (List.mem_cons_of_mem _ hb)]
/-- The parts that every beginning has. -/
theorem Sim.begs (h : Sim x s rel) {l1 l2 : List Pk} {p : Pk} (e : x.pk = l1 ++ p :: l2) (he : El x.now p) (hqp : 0 ≤ p.flow → p.seq < rel p.flow) (hod : ∃ B, Od ⟨x.now + 1, x.fl, l1 ++ beg x.now p :: l2, x.began ++ [l1.length]⟩ B)
    {s' : PS} (hn : s'.now = s.now + 1) (hnum : s'.num = s.num) (hbr : s'.br = s.br) (hG : s'.G = s.G ++ [⟨p.flow, p.seq, p.size, p.ready, s.now, false, false⟩])
    (hfs : (0 ≤ p.flow ∧ ∃ f, s.fs p.flow.toNat = some f ∧ s'.fs = upd s.fs p.flow.toNat { f with wa := f.wa - 1 }) ∨ (p.flow < 0 ∧ s'.fs = s.fs))
    (hH : s'.H.Perm (((l1 ++ l2).filter (quB rel)).map fun p => enP p (dueOf x.fl p.flow))) (hO : s'.O = (l1 ++ l2).filter othB) :
    Sim ⟨x.now + 1, x.fl, l1 ++ beg x.now p :: l2, x.began ++ [l1.length]⟩ s' rel := by
  have n0 := h.inv.n0
  have hwb := wt_beg x.now p n0
  have hmem : ∀ q ∈ l1 ++ beg x.now p :: l2, q = beg x.now p ∨ q ∈ x.pk := fun q hq => by rw [e]; exact mem_beg hq
  have hpm : p ∈ x.pk := by rw [e]; simp
  have hq0 : quB rel (beg x.now p) = false := by
    rw [← Bool.not_eq_true, quB_iff]
    rintro ⟨_, g, _⟩
    rw [hwb] at g; cases g
  have hhd : ∀ k r, hdB k r (beg x.now p) = false := fun k r => by
    rw [← Bool.not_eq_true, hdB_iff]
    rintro ⟨_, g, _⟩
    rw [hwb] at g; cases g
  have hot0 : othB (beg x.now p) = false := by
    rw [← Bool.not_eq_true, othB_iff]
    rintro ⟨_, g⟩
    rw [hwb] at g; cases g
  have hfil : ∀ (c : Pk → Bool), c (beg x.now p) = false → (l1 ++ beg x.now p :: l2).filter c = (l1 ++ l2).filter c := fun c hc => by
    rw [List.filter_append, List.filter_append, List.filter_cons_of_neg (by rw [hc]; decide)]
  have hsk : (l1 ++ beg x.now p :: l2).map Pk.sk = x.pk.map Pk.sk := by rw [e]; simp [sk_beg]
  have hpw : wt p = true := (wt_iff p).2 ⟨he.1, he.2.1⟩
  have hseq : ∀ k : Int, (⟨x.now + 1, x.fl, l1 ++ beg x.now p :: l2, x.began ++ [l1.length]⟩ : Ln).seqOf k = x.seqOf k := fun k => by
    unfold Ln.seqOf
    show (l1 ++ beg x.now p :: l2).countP _ = _
    rw [e, List.countP_append, List.countP_append, List.countP_cons, List.countP_cons]
    rfl
  have hwait : ∀ k : Int, ((⟨x.now + 1, x.fl, l1 ++ beg x.now p :: l2, x.began ++ [l1.length]⟩ : Ln).waiting k : Int) = (x.waiting k : Int) - if p.flow = k then 1 else 0 := fun k => by
    unfold Ln.waiting
    show (((l1 ++ beg x.now p :: l2).countP fun p => decide (p.flow = k) && decide (p.start < 0) && !p.dropped : Nat) : Int) = _
    rw [e, List.countP_append, List.countP_append, List.countP_cons, List.countP_cons]
    have c1 : (decide ((beg x.now p).flow = k) && decide ((beg x.now p).start < 0) && !(beg x.now p).dropped) = false := by
      have : ¬ (beg x.now p).start < 0 := by show ¬ x.now < 0; omega
      simp [this]
    have c2 : (decide (p.flow = k) && decide (p.start < 0) && !p.dropped) = decide (p.flow = k) := by
      simp [he.1, he.2.1]
    rw [c1, c2]
    by_cases g : p.flow = k
    · simp [g]; omega
    · simp [g]
  have htold : p.told = false := by
    rw [← Bool.not_eq_true]
    intro g
    have := (h.tl p hpm g).1
    have := he.1
    omega
  refine ⟨hod, ?_, ?_, ?_, ?_, ?_, h.is, ?_, ?_, ?_, ?_, ?_, ?_, ?_, ?_⟩
  · intro q hq hx
    rcases hmem q hq with rfl | g
    · rw [hq0] at hx; cases hx
    · have := h.rr q g hx
      exact ⟨this.1, by show q.ready ≤ x.now + 1; omega⟩
  · intro q hq q0 qw qi
    rcases hmem q hq with rfl | g
    · rw [hwb] at qw; cases qw
    · exact h.lg q g q0 qw qi
  · intro q hq q0 qw
    rcases hmem q hq with rfl | g
    · rw [hwb] at qw; cases qw
    · exact h.aw q g q0 qw
  · intro q hq qt
    rcases hmem q hq with rfl | g
    · have : p.told = true := qt
      rw [htold] at this; cases this
    · have := h.tl q g qt
      exact ⟨this.1, by show q.start + q.size ≤ x.now + 1; omega⟩
  · intro k
    rw [hseq]; exact h.rb k
  · rw [hn, h.now]
  · rw [hnum]; exact h.num
  · intro k
    show (∃ f, s'.fs k = some f) ↔ ∃ st, x.fl[k]? = some st ∧ st.is < 2
    rw [← h.dom k]
    rcases hfs with ⟨_, f, hf, hu⟩ | ⟨_, hu⟩
    · rw [hu]
      by_cases g : k = p.flow.toNat
      · subst g
        rw [upd_same]
        exact ⟨fun _ => ⟨f, hf⟩, fun _ => ⟨_, rfl⟩⟩
      · rw [upd_far _ _ g]
    · rw [hu]
  · intro k f hf
    have hL : ∀ k r, (l1 ++ beg x.now p :: l2).filter (hdB k r) = (l1 ++ l2).filter (hdB k r) := fun k r => hfil _ (hhd k r)
    rcases hfs with ⟨p0, f0, hf0, hu⟩ | ⟨p0, hu⟩
    · rw [hu] at hf
      by_cases g : k = p.flow.toNat
      · subst g
        rw [upd_same] at hf
        obtain rfl := Option.some.inj hf
        obtain ⟨st, h1, h2, h3, h4, h5, h6, h7⟩ := h.val _ f0 hf0
        have hpf : ((p.flow.toNat : Nat) : Int) = p.flow := by omega
        refine ⟨st, h1, h2, h3, ?_, ?_, ?_, h7.same hsk⟩
        · rw [hseq]; exact h4
        · rw [hwait, hpf, if_pos rfl]
          show f0.wa - 1 = _
          rw [h5, hpf]
        · show f0.L = _
          rw [hL, h6, e, List.filter_append, List.filter_append, List.filter_cons_of_neg]
          rw [hdB_iff, hpf]
          have := hqp p0
          omega
      · rw [upd_far _ _ g] at hf
        obtain ⟨st, h1, h2, h3, h4, h5, h6, h7⟩ := h.val k f hf
        have hne : ¬ p.flow = (k : Int) := fun c => g (by omega)
        refine ⟨st, h1, h2, h3, ?_, ?_, ?_, h7.same hsk⟩
        · rw [hseq]; exact h4
        · rw [hwait, if_neg hne, h5]; omega
        · rw [hL, h6, e, List.filter_append, List.filter_append, List.filter_cons_of_neg]
          rw [hdB_iff]; exact fun c => hne c.1
    · rw [hu] at hf
      obtain ⟨st, h1, h2, h3, h4, h5, h6, h7⟩ := h.val k f hf
      have hne : ¬ p.flow = (k : Int) := by omega
      refine ⟨st, h1, h2, h3, ?_, ?_, ?_, h7.same hsk⟩
      · rw [hseq]; exact h4
      · rw [hwait, if_neg hne, h5]; omega
      · rw [hL, h6, e, List.filter_append, List.filter_append, List.filter_cons_of_neg]
        rw [hdB_iff]; exact fun c => hne c.1
  · show s'.H.Perm (((l1 ++ beg x.now p :: l2).filter (quB rel)).map _)
    rw [hfil _ hq0]; exact hH
  · show s'.O = (l1 ++ beg x.now p :: l2).filter othB
    rw [hfil _ hot0]; exact hO
  · rw [hseq, hbr]; exact h.br
  · rw [hG, h.G, h.now]
    unfold untoldL
    show _ = ((x.began ++ [l1.length]).filterMap fun i => (l1 ++ beg x.now p :: l2)[i]?).filter fun p => !p.told
    rw [List.filterMap_append, List.filter_append]
    have hlast : ([l1.length].filterMap fun i => (l1 ++ beg x.now p :: l2)[i]?) = [beg x.now p] := by
      rw [List.filterMap_cons_some get_at]; rfl
    rw [hlast]
    have hold : (x.began.filterMap fun i => (l1 ++ beg x.now p :: l2)[i]?) = x.began.filterMap fun i => x.pk[i]? := by
      refine fm_congr _ _ _ fun i hi => ?_
      have : i ≠ l1.length := by
        rintro rfl
        obtain ⟨q, hq, q0⟩ := h.inv.bg _ hi
        rw [e, get_at] at hq
        obtain rfl := Option.some.inj hq
        have := he.1
        omega
      rw [e]; exact get_far this
    rw [hold]
    congr 1
    have hb : beg x.now p = ⟨p.flow, p.seq, p.size, p.ready, x.now, false, false⟩ := by
      obtain ⟨f1, f2, f3, f4, f5, f6, f7⟩ := p
      have g1 : f6 = false := he.2.1
      have g2 : f7 = false := htold
      subst g1 g2
      rfl
    rw [List.filter_cons_of_pos (by simp [beg, htold]), hb]
    rfl
theorem pickF_lex {now : Int} {fl : List Stt} {flows : Bool} : ∀ (l : List Pk) (i : Nat) (b : Option Bst) (c : Bst), pickF now fl flows l i b = some c →
    (∀ q ∈ l, elB now flows q = true → c.due < key fl flows q ∨ (c.due = key fl flows q ∧ c.flow ≤ q.flow)) ∧ ∀ b', b = some b' → c.due < b'.due ∨ (c.due = b'.due ∧ c.flow ≤ b'.flow)
  | [], _, b, c, h => by
    refine ⟨fun q hq => (List.not_mem_nil hq).elim, fun b' hb => ?_⟩
    have h' : b = some c := h
    rw [hb] at h'
    obtain rfl := Option.some.inj h'
    omega
  | p :: l, i, b, c, h => by
    have h' : pickF now fl flows l (i + 1) (if elB now flows p = true ∧ better fl flows p b = true then some ⟨i, key fl flows p, p.flow⟩ else b) = some c := h
    by_cases g : elB now flows p = true ∧ better fl flows p b = true
    · rw [if_pos g] at h'
      obtain ⟨h1, h2⟩ := pickF_lex l (i + 1) _ c h'
      have h3 := h2 _ rfl
      refine ⟨fun q hq he => ?_, fun b' hb => ?_⟩
      · rcases List.mem_cons.1 hq with rfl | hq
        · exact h3
        · exact h1 q hq he
      · subst hb
        have := g.2
        unfold better at this
        simp only [Bool.or_eq_true, Bool.and_eq_true, decide_eq_true_eq] at this
        have h4 : c.due < key fl flows p ∨ (c.due = key fl flows p ∧ c.flow ≤ p.flow) := h3
        omega
    · rw [if_neg g] at h'
      obtain ⟨h1, h2⟩ := pickF_lex l (i + 1) _ c h'
      refine ⟨fun q hq he => ?_, h2⟩
      rcases List.mem_cons.1 hq with rfl | hq
      · cases b with
        | none => exact absurd ⟨he, rfl⟩ g
        | some b' =>
          have h3 := h2 b' rfl
          have : ¬ better fl flows q (some b') = true := fun k => g ⟨he, k⟩
          unfold better at this
          simp only [Bool.or_eq_true, Bool.and_eq_true, decide_eq_true_eq] at this
          omega
      · exact h1 q hq he
theorem first_lex {flows : Bool} {l1 l2 : List Pk} {p : Pk} {b : Bst} (h : x.first flows = some b) (e : x.pk = l1 ++ p :: l2) (hi : b.i = l1.length) : ∀ q ∈ x.pk, elB x.now flows q = true → key x.fl flows p < key x.fl flows q ∨ (key x.fl flows p = key x.fl flows q ∧ p.flow ≤ q.flow) := by
  unfold Ln.first at h
  have hl := pickF_lex _ _ _ _ h
  rcases pickF_spec (now := x.now) (fl := x.fl) (flows := flows) x.pk 0 none with ⟨h1, _, _⟩ | ⟨m1, q, m2, e2, _, h3, _⟩
  · rw [h1] at h; cases h
  · rw [h3] at h
    have hb : (⟨0 + m1.length, key x.fl flows q, q.flow⟩ : Bst) = b := Option.some.inj h
    have hlen : m1.length = l1.length := by
      have : b.i = 0 + m1.length := by rw [← hb]
      omega
    obtain ⟨rfl, rfl, rfl⟩ := split_uniq (e2.symm.trans e) hlen
    rw [← hb] at hl
    exact hl.1
theorem En.same {a b : En} (h : a.le b) (k : b.le a) : a.dl = b.dl ∧ a.flow = b.flow ∧ a.seq = b.seq := by unfold En.le at h k; omega
theorem Sim.uniq (h : Sim x s rel) {p q : Pk} (hp : p ∈ x.pk) (hq : q ∈ x.pk) (hf : p.flow = q.flow) (hs : p.seq = q.seq) : p = q := by
  obtain ⟨a, b, e⟩ := List.append_of_mem hp
  rw [e] at hq
  rcases List.mem_append.1 hq with g | g
  · have := h.ahead e g hf.symm
    omega
  · rcases List.mem_cons.1 g with g | g
    · exact g.symm
    · have := h.after e g hf.symm
      omega
/-- What begins is what the document lets begin. -/
theorem Sim.adv (h : Sim x s rel) (hr : Rld s) {s' : PS} (hb : Beg s s') (hod : ∃ B, Od x.adv B) : Sim x.adv { s' with now := s.now + 1 } rel := by
  have hOe : ∀ q ∈ x.pk, othB q = elB x.now false q := by
    intro q hq
    rw [Bool.eq_iff_iff, othB_iff, elB_iff]
    constructor
    · rintro ⟨a, b⟩
      obtain ⟨w1, w2⟩ := (wt_iff q).1 b
      have := (h.od.choose_spec.od q hq (by omega)).2
      exact ⟨⟨w1, w2, this.1, this.2⟩, by simp; omega⟩
    · rintro ⟨⟨w1, w2, r0, r1⟩, g⟩
      have : ¬ 0 ≤ q.flow := fun c => by have := g.1 c; cases this
      rcases h.fl1 hq with c | c
      · exact absurd c this
      · exact ⟨c, (wt_iff q).2 ⟨w1, w2⟩⟩
  have hnone : s.H = [] → x.first true = none := fun g => by
    have := h.some_ready hr
    rw [g] at this
    cases hf : x.first true with
    | none => rfl
    | some b => rw [hf] at this; simp at this
  rcases hb with ⟨hb, rfl⟩ | ⟨hbz, hH, p, tl, v, vb, o, hO, rfl⟩ | ⟨hbz, e, H', v, vb, o, k, f, hP, hle, hk, hf, rfl⟩
  · have : x.adv = { x with now := x.now + 1 } := by
      unfold Ln.adv Ln.begins
      rcases hb with hb | ⟨hH, hO⟩
      · rw [h.busy] at hb
        rw [if_pos hb]
      · cases hbz : x.busy with
        | true => rw [if_pos rfl]
        | false =>
          rw [if_neg (by decide)]
          have h2 : x.first false = none := by
            cases hf : x.first false with
            | none => rfl
            | some b =>
              obtain ⟨l1, p, l2, ep, _, he, _⟩ := first_some hf
              have hp : p ∈ x.pk := by rw [ep]; simp
              have hin : p ∈ s'.O := by rw [h.O]; exact List.mem_filter.2 ⟨hp, by rw [hOe p hp]; exact he⟩
              rw [hO] at hin; cases hin
          have : x.goes = none := by unfold Ln.goes; rw [hnone hH]; exact h2
          rw [this]
    rw [this] at hod ⊢
    exact h.later hod
  · rw [h.busy] at hbz
    have hO' := h.O
    rw [hO] at hO'
    obtain ⟨a, b, ep, ha, hp, etl⟩ := List.filter_eq_cons_iff.1 hO'.symm
    have hpm : p ∈ x.pk := by rw [ep]; simp
    have hel := hp
    rw [hOe p hpm] at hel
    have hnel : ∀ q ∈ a, elB x.now false q = false := fun q hq => by
      rw [← hOe q (by rw [ep]; simp [hq])]
      simpa using ha q hq
    obtain ⟨b', hb'⟩ : ∃ b', x.first false = some b' := by
      cases hf : x.first false with
      | some b => exact ⟨b, rfl⟩
      | none =>
        have := first_none hf p hpm
        rw [hel] at this; cases this
    obtain ⟨l1, q, l2, eq1, hi, heq, _⟩ := first_some hb'
    have htie := first_tie hb' eq1 hi
    have hqp : l1 = a ∧ q = p ∧ l2 = b := by
      have hee : a ++ p :: b = l1 ++ q :: l2 := ep.symm.trans eq1
      have hlen : a.length = l1.length := by
        rcases Nat.lt_trichotomy a.length l1.length with g | g | g
        · exfalso
          have hpin : p ∈ l1 := by
            have h1 : (l1 ++ q :: l2)[a.length]? = some p := by rw [← hee]; exact get_at
            rw [List.getElem?_append_left g] at h1
            exact List.mem_of_getElem? h1
          have := htie.2 p hpin hel
          obtain ⟨pf, _⟩ := (othB_iff p).1 hp
          have hqm : q ∈ x.pk := by rw [eq1]; simp
          have qf := ((othB_iff q).1 (by rw [hOe q hqm]; exact heq)).1
          unfold key at this
          simp at this
          omega
        · exact g
        · exfalso
          have hqin : q ∈ a := by
            have h1 : (a ++ p :: b)[l1.length]? = some q := by rw [hee]; exact get_at
            rw [List.getElem?_append_left g] at h1
            exact List.mem_of_getElem? h1
          rw [hnel q hqin] at heq; cases heq
      obtain ⟨g1, g2, g3⟩ := split_uniq hee hlen
      exact ⟨g1.symm, g2.symm, g3.symm⟩
    obtain ⟨rfl, rfl, rfl⟩ := hqp
    have hgo : x.goes = some b' := by unfold Ln.goes; rw [hnone hH]; exact hb'
    have hadv : x.adv = ⟨x.now + 1, x.fl, l1 ++ beg x.now q :: l2, x.began ++ [l1.length]⟩ := by
      unfold Ln.adv Ln.begins
      rw [if_neg (by rw [hbz]; decide), hgo]
      simp only [hi]
      rw [ep, modify_at]
    rw [hadv] at hod ⊢
    obtain ⟨hE, _⟩ := (elB_iff _ _ _).1 heq
    obtain ⟨pf, _⟩ := (othB_iff q).1 hp
    refine h.begs ep hE (fun c => by omega) hod rfl rfl rfl ?_ (.inr ⟨by omega, rfl⟩) ?_ ?_
    · show s.G ++ [_] = s.G ++ [_]
      rw [toTick_of hE.2.2.1]
    · show s.H.Perm _
      have hH' := h.H
      rw [ep, List.filter_append, List.filter_cons_of_neg (by rw [quB_iff]; omega), ← List.filter_append] at hH'
      exact hH'
    · show tl = _
      rw [List.filter_append, List.filter_eq_nil_iff.2 ha, List.nil_append, etl]
  · rw [h.busy] at hbz
    have hmem : e ∈ s.H := hP.mem_iff.2 (List.mem_cons_self ..)
    obtain ⟨p, hpq, hpe⟩ := List.mem_map.1 (h.H.mem_iff.1 hmem)
    obtain ⟨hpm, hpB⟩ := List.mem_filter.1 hpq
    obtain ⟨p0, pw, ps⟩ := (quB_iff _ _).1 hpB
    have hpel := hpB
    rw [h.el hr p hpm] at hpel
    obtain ⟨hE, _⟩ := (elB_iff _ _ _).1 hpel
    obtain ⟨b', hb'⟩ : ∃ b', x.first true = some b' := by
      cases hf : x.first true with
      | some b => exact ⟨b, rfl⟩
      | none =>
        have := first_none hf p hpm
        rw [hpel] at this; cases this
    obtain ⟨l1, q, l2, eq1, hi, heq, hmin⟩ := first_some hb'
    have htie := first_tie hb' eq1 hi
    have hqm : q ∈ x.pk := by rw [eq1]; simp
    have hqB : quB rel q = true := by rw [h.el hr q hqm]; exact heq
    -- the document's one is the least
    have hqle : (enP q (dueOf x.fl q.flow)).le (enP p (dueOf x.fl p.flow)) := by
      obtain ⟨hQE, _⟩ := (elB_iff _ _ _).1 heq
      have h1 := hmin p hpm hpel
      unfold key at h1
      simp only [if_true] at h1
      unfold En.le enP
      simp only [toTick_of hQE.2.2.1, toTick_of hE.2.2.1]
      have h2 := first_lex hb' eq1 hi p hpm hpel
      unfold key at h2
      simp only [if_true] at h2
      by_cases hf : q.flow = p.flow
      · have hin := hpm
        rw [eq1] at hin
        rcases List.mem_append.1 hin with g | g
        · have := htie.2 p g hpel
          unfold key at this
          simp only [if_true] at this
          omega
        · rcases List.mem_cons.1 g with rfl | g
          · omega
          · have := h.after eq1 g hf.symm
            omega
      · omega
    have hle' := hle _ (h.H.mem_iff.2 (List.mem_map.2 ⟨q, List.mem_filter.2 ⟨hqm, hqB⟩, rfl⟩))
    rw [← hpe] at hle'
    obtain ⟨_, g2, g3⟩ := En.same hle' hqle
    have hpq' : p = q := h.uniq hpm hqm g2 g3
    subst hpq'
    have hgo : x.goes = some b' := by unfold Ln.goes; rw [hb']
    have hadv : x.adv = ⟨x.now + 1, x.fl, l1 ++ beg x.now p :: l2, x.began ++ [l1.length]⟩ := by
      unfold Ln.adv Ln.begins
      rw [if_neg (by rw [hbz]; decide), hgo]
      simp only [hi]
      rw [eq1, modify_at]
    rw [hadv] at hod ⊢
    have ef : e.flow = p.flow := by rw [← hpe]; rfl
    have hkp : p.flow.toNat = k := by omega
    refine h.begs eq1 hE (fun _ => ps) hod rfl rfl rfl ?_ (.inl ⟨p0, f, by rw [hkp]; exact hf, by rw [hkp]⟩) ?_ ?_
    · show s.G ++ [_] = s.G ++ [_]
      rw [← hpe]
      show s.G ++ [⟨p.flow, p.seq, p.size, toTick p.ready, s.now, false, false⟩] = _
      rw [toTick_of hE.2.2.1]
    · show H'.Perm _
      have hH' := h.H
      rw [eq1, List.filter_append, List.filter_cons_of_pos hpB, List.map_append, List.map_cons, hpe] at hH'
      rw [List.filter_append, List.map_append]
      exact List.Perm.cons_inv (hP.symm.trans (hH'.trans List.perm_middle))
    · show s.O = _
      rw [h.O, eq1, List.filter_append, List.filter_append, List.filter_cons_of_neg (by rw [othB_iff]; omega)]
end
end Go.Proofs.YtcnmajndackohaaGreatDoor
/-
  Plain: what bounds a line's numbers; ticks.
-/
namespace Go.Proofs.YtcnmajndackohaaGreatDoor

theorem nodup_le : ∀ (n : Nat) (l : List Nat), l.Nodup → (∀ i ∈ l, i < n) → l.length ≤ n
  | 0, l, _, h => by
    cases l with
    | nil => exact Nat.le_refl _
    | cons a l => exact absurd (h a (by simp)) (by omega)
  | n + 1, l, hd, h => by
    have e := nodup_le n (l.erase n) (hd.erase n) (fun i hi => by
      have h1 := (List.Nodup.mem_erase_iff hd).1 hi
      have := h i h1.2
      omega)
    have : l.length ≤ (l.erase n).length + 1 := by
      rw [List.length_erase]
      split <;> omega
    omega
theorem nd_le {x : Ln} (h : Lnv x) (hd : x.began.Nodup) : x.began.length ≤ x.pk.length :=
  nodup_le _ _ hd fun i hi => by
    obtain ⟨p, e, _⟩ := h.bg i hi
    exact (List.getElem?_eq_some_iff.1 e).1
/-- What bounds a line's numbers. -/
structure Lbn (x : Ln) : Prop where
  now : x.now ≤ 100000000000
  pk : x.pk.length ≤ 4000000
  fl : x.fl.length ≤ 4000000000
  rd : ∀ p ∈ x.pk, p.ready ≤ 100000000000
section
variable {x : Ln} {s : PS} {rel : Int → Int}
theorem toTick_nonneg (r : Int) : 0 ≤ toTick r := by unfold toTick never; split <;> omega
theorem Sim.lt (h : Sim x s rel) {k : Nat} {f : FS} (hf : s.fs k = some f) : k < x.fl.length := by
  obtain ⟨st, h1, _⟩ := h.val k f hf
  exact (List.getElem?_eq_some_iff.1 h1).1
theorem Sim.Hlen (h : Sim x s rel) : s.H.length ≤ x.pk.length := by
  rw [h.H.length_eq, List.length_map]; exact List.length_filter_le _ _
theorem Sim.rgo (h : Sim x s rel) (b : Lbn x) : Rgo s := by
  refine ⟨?_, ?_, ?_, ?_, ?_, ?_⟩
  · have := h.Hlen; have := b.pk; omega
  · rw [h.now]; exact h.inv.n0
  · rw [h.now]; have := b.now; omega
  · intro k f hf
    obtain ⟨st, h1, h2, _⟩ := h.val k f hf
    obtain ⟨_, _, _, _, _, _, _, d0, d1⟩ := h.inv.may st (List.mem_of_getElem? h1)
    rw [h2]
    have : 2 ≤ st.f.s := by assumption
    omega
  · intro k f hf p _
    exact toTick_nonneg _
  · intro k f hf
    obtain ⟨st, _, _, _, _, _, h6, _⟩ := h.val k f hf
    rw [h6]
    have h1 := List.length_filter_le (hdB k (rel k)) x.pk
    have := b.pk
    omega
theorem Sim.Glen (h : Sim x s rel) : s.G.length ≤ x.pk.length := by
  obtain ⟨B, hB⟩ := h.od
  have h1 := nd_le h.inv hB.nd
  rw [h.G]
  unfold untoldL
  have h2 := List.length_filter_le (fun p : Pk => !p.told) (x.began.filterMap fun i => x.pk[i]?)
  have h3 := List.length_filterMap_le (fun i => x.pk[i]?) x.began
  omega
theorem Sim.wait_le (_h : Sim x s rel) (k : Int) : x.waiting k ≤ x.pk.length := List.countP_le_length
theorem Sim.bgo (h : Sim x s rel) (b : Lbn x) : Bgo s := by
  have r := h.rgo b
  refine ⟨?_, r.n0, r.n1, r.h, ?_, ?_, ?_, ?_, ?_, ?_⟩
  · have := h.Glen; have := b.pk; omega
  · intro e he
    obtain ⟨p, hp, rfl⟩ := List.mem_map.1 (h.H.mem_iff.1 he)
    obtain ⟨hpm, hpB⟩ := List.mem_filter.1 hp
    obtain ⟨p0, pw, _⟩ := (quB_iff _ _).1 hpB
    have his := h.aw p hpm p0 pw
    have hlt := h.inv.own p hpm p0
    have hk : p.flow = ((p.flow.toNat : Nat) : Int) := by omega
    obtain ⟨f, hf⟩ := (h.dom p.flow.toNat).2 ⟨x.fl[p.flow.toNat], List.getElem?_eq_getElem hlt, by
      rw [hk, is_at (List.getElem?_eq_getElem hlt)] at his; exact his⟩
    exact ⟨_, f, hk, hf⟩
  · intro k f hf
    obtain ⟨st, _, _, _, _, h5, _⟩ := h.val k f hf
    have h1 := h.wait_le k
    have := b.pk
    rw [h5]
    omega
  · intro k f hf
    have := h.lt hf
    have := b.fl
    omega
  · intro e he
    obtain ⟨p, hp, rfl⟩ := List.mem_map.1 (h.H.mem_iff.1 he)
    exact h.inv.sz p (List.mem_filter.1 hp).1
  · intro p hp
    rw [h.O] at hp
    exact h.inv.sz p (List.mem_filter.1 hp).1
  · rw [h.O]
    have h1 := List.length_filter_le othB x.pk
    have := b.pk
    omega
theorem ticks_succ : ∀ (n : Nat) (x : Ln), x.ticks (n + 1) = (x.ticks n).tick
  | 0, _ => rfl
  | n + 1, x => by
    show x.tick.ticks (n + 1) = (x.tick.ticks n).tick
    exact ticks_succ n x.tick
theorem away_fl (x : Ln) : x.away.fl.length = x.fl.length := by
  unfold Ln.away
  split
  · rfl
  · simp
theorem begins_fl (x : Ln) : x.begins.fl = x.fl := by
  unfold Ln.begins
  split
  · rfl
  · split <;> rfl
theorem tick_fl (x : Ln) : x.tick.fl.length = x.fl.length := by
  show x.away.begins.fl.length = _
  rw [begins_fl, away_fl]
theorem ticks_fls : ∀ (n : Nat) (x : Ln), (x.ticks n).fl.length = x.fl.length
  | 0, _ => rfl
  | n + 1, x => by
    show (x.tick.ticks n).fl.length = _
    rw [ticks_fls n, tick_fl]
theorem away_bnd (b : Lbn x) : Lbn x.away := by
  refine ⟨?_, ?_, by rw [away_fl]; exact b.fl, ?_⟩
  · unfold Ln.away; split <;> exact b.now
  · unfold Ln.away; split <;> exact b.pk
  · unfold Ln.away; split <;> exact b.rd
theorem sk_ready {l m : List Pk} (h : l.map Pk.sk = m.map Pk.sk) {c : Int} (hm : ∀ p ∈ m, p.ready ≤ c) : ∀ p ∈ l, p.ready ≤ c := by
  intro p hp
  have : p.sk ∈ m.map Pk.sk := by rw [← h]; exact List.mem_map.2 ⟨p, hp, rfl⟩
  obtain ⟨q, hq, e⟩ := List.mem_map.1 this
  have : q.ready = p.ready := congrArg Sk.ready e
  rw [← this]; exact hm q hq
theorem Lbn.ticks (b : Lbn x) (hn : x.now ≤ 50000000000) {i : Nat} (hi : i ≤ 1000) : Lbn (x.ticks i) := by
  obtain ⟨h1, h2, _⟩ := ticks_sk i x
  refine ⟨by rw [h1]; omega, ?_, by rw [ticks_fls]; exact b.fl, sk_ready h2 b.rd⟩
  have := congrArg List.length h2
  rw [List.length_map, List.length_map] at this
  rw [this]; exact b.pk
/-- One tick. -/
theorem Sim.tick (h : Sim x s rel) (hr : Rld s) {s' : PS} (hb : Beg s.settle s') : Sim x.tick { s' with now := s.now + 1 } rel := by
  obtain ⟨h1, h2⟩ := h.settle hr
  obtain ⟨B, hB⟩ := h.od
  have hod := od_tick hB
  obtain ⟨C, hC⟩ := hod
  have hn : s.settle.now = s.now := by unfold PS.settle; split <;> rfl
  have := h1.adv h2 hb ⟨B ++ C, by rw [← tick_adv]; exact hC⟩
  rw [hn] at this
  exact this
end
end Go.Proofs.YtcnmajndackohaaGreatDoor
/-
  errors.Is and errors.As at a sentinel behind any number of wraps.
-/
namespace Go.Proofs.YtcnmajndackohaaGreatDoor
open Go.RowKit Go.Extern.Stop Go.Stop Go.Extern

/-- A sentinel, and wraps around it. -/
def snt (a : Addr) : Value := .iface 242 (.pointer (some a))
def chn : List ByteArray → Addr → Value
  | [], a => snt a
  | s :: l, a => plc s (chn l a)
theorem chn_form (l : List ByteArray) (a : Addr) : ∃ T v, chn l a = .iface T v := by
  cases l with
  | nil => exact ⟨_, _, rfl⟩
  | cons s l => exact ⟨_, _, rfl⟩
theorem noAsE (v : Value) (xT : TypeId) (w : World) : (Instr.typeAssert (.iface 242 v) xT 171 true).run Tryz.prog w = .ok (.tuple #[.nilIface, .bool false]) w := run_typeAssert_lacksB Tryz.underlying171 (by kernel_rfl) (by kernel_rfl) v xT w
theorem bel1 {w : World} (o : Obj) : Below w.heap.size w (w.alloc o) := (Below.refl _ _).alloc (Nat.le_refl _) _
theorem belThen {a b c : World} (h : Below a.heap.size a b) (k : Below b.heap.size b c) : Below a.heap.size a c := h.trans (k.mono h.size)

set_option maxRecDepth 100000 in
set_option maxHeartbeats 2000000 in
theorem is_chain (l : List ByteArray) (a : Addr) (w : World) :
    Calls Tryz.prog 74 #[chn l a, snt a, .bool true] w fun e w' => e = .returned (.bool true) ∧ Below w.heap.size w w' := by
  obtain ⟨i, hi, hcmp⟩ := Option.map_eq_some_iff.1 isComp
  obtain ⟨j, hj, hjs⟩ := Option.map_eq_some_iff.1 isSize
  have nP := noIsP
  have uP := hasUnwrapP
  have heq := fun W => run_eql_iface_ptr_same (P := Tryz.prog) W a Tryz.underlying66 Tryz.underlying242 hi hcmp hj
  unfold snt
  generalize hE : chn l a = E
  have HE := hide hE
  clear hE
  go_enter Tryz.func74, Tryz.ntmps74
  go_wp2_with fail
  go_loopg [0] (l.length + 1) (fun k v wr => (∃ l' : List ByteArray, v = chn l' a ∧ l'.length < k) ∧ Below w.heap.size w wr)
  case atStart => exact ⟨⟨l, (unhide HE).symm, Nat.lt_succ_self _⟩, Below.refl _ _⟩
  case round =>
    obtain ⟨⟨l', rfl, hk⟩, hbel⟩ := hrel
    have HB := hide hbel
    have HK := hide hk
    clear hbel hk
    cases l' with
    | nil =>
      unfold chn snt
      go_wp2
      go_ret
      exact ⟨rfl, unhide HB⟩
    | cons s l' =>
      obtain ⟨T, x, hx⟩ := chn_form l' a
      have HX := hide hx
      have hch : chn (s :: l') a = .iface 134 (.agg #[.string s, .iface T x]) := by
        show plc s (chn l' a) = _
        rw [hx]; rfl
      rw [hch]
      clear hch hx
      have hty := fun W => run_eql_iface_types (P := Tryz.prog) 134 242 (.agg #[.string s, .iface T x]) (.pointer (some a)) Tryz.underlying66 (by decide) W
      go_wp2
      go_roundg (l'.length + 1)
      case measure => have := unhide HK; simp at this; omega
      case rel => exact ⟨⟨l', (unhide HX).symm, Nat.lt_succ_self _⟩, belThen (unhide HB) (bel1 _)⟩

set_option maxRecDepth 100000 in
set_option maxHeartbeats 2000000 in
theorem is_top (l : List ByteArray) (a : Addr) (w : World) :
    Calls Tryz.prog 49 #[chn l a, snt a] w fun e w' => e = .returned (.bool true) ∧ Below w.heap.size w w' := by
  have tT := callTypeOf
  have cT := callComparable
  have HI := hide (is_chain l a)
  obtain ⟨T, x, hx⟩ := chn_form l a
  rw [hx] at HI ⊢
  unfold snt at HI ⊢
  clear hx
  go_enter Tryz.func49, Tryz.ntmps49
  go_wp2_with fail
  refine (unhide HI _).mono ?_
  rintro e w1 ⟨rfl, hb⟩
  have HB := hide hb
  clear hb
  go_wp2_with fail
  go_ret
  exact ⟨rfl, unhide HB⟩

set_option maxRecDepth 100000 in
set_option maxHeartbeats 2000000 in
theorem as_chain (l : List ByteArray) (a : Addr) (tv : Value) (vv : Value) (w : World) (hag : ∃ c, vv = .agg #[.pointer (some ⟨10, 97, none⟩), .pointer (some c), .int .u64 150]) :
    Calls Tryz.prog 72 #[chn l a, tv, vv, .iface 167 (.agg #[.pointer (some ⟨10, 95, none⟩)])] w fun e w' => e = .returned (.bool false) ∧ Below w.heap.size w w' := by
  obtain ⟨c, rfl⟩ := hag
  have f7 := typeOfPl
  have f8 := callTypeOf
  have f9 := asgPl
  have f10 := asgE
  have f12 := noAsP
  have f13 := noAsE
  have uP := hasUnwrapP
  have uE := noUnwrapE
  have vE := noUnwrapsE
  generalize hE : chn l a = E
  have HE := hide hE
  clear hE
  go_enter Tryz.func72, Tryz.ntmps72
  go_wp2_with fail
  go_loopg [0] (l.length + 1) (fun k v wr => (∃ l' : List ByteArray, v = chn l' a ∧ l'.length < k) ∧ Below w.heap.size w wr)
  case atStart => exact ⟨⟨l, (unhide HE).symm, Nat.lt_succ_self _⟩, bel1 _⟩
  case round =>
    obtain ⟨⟨l', rfl, hk⟩, hbel⟩ := hrel
    have HB := hide hbel
    have HK := hide hk
    clear hbel hk
    cases l' with
    | nil =>
      unfold chn snt
      go_wp2
      go_ret
      exact ⟨rfl, unhide HB⟩
    | cons s l' =>
      obtain ⟨T, x, hx⟩ := chn_form l' a
      have HX := hide hx
      have hch : chn (s :: l') a = .iface 134 (.agg #[.string s, .iface T x]) := by
        show plc s (chn l' a) = _
        rw [hx]; rfl
      rw [hch]
      clear hch hx
      go_wp2
      go_roundg (l'.length + 1)
      case measure => have := unhide HK; simp at this; omega
      case rel => exact ⟨⟨l', (unhide HX).symm, Nat.lt_succ_self _⟩, belThen (unhide HB) (bel1 _)⟩

set_option maxRecDepth 100000 in
set_option maxHeartbeats 2000000 in
theorem as_top (l : List ByteArray) (a : Addr) (tb : Nat) (w : World) (hg : w.cell? ⟨6, 0, none⟩ = some (.iface 167 (.agg #[.pointer (some ⟨10, 66, none⟩)]))) :
    Calls Tryz.prog 48 #[chn l a, .iface 97 (.pointer (some ⟨tb, 0, none⟩))] w fun e w' => e = .returned (.bool false) ∧ Below w.heap.size w w' := by
  have zg : 6 < w.heap.size := World.block_lt_of_cell? _ _ hg
  have f1 := valueOfP
  have f2 := typeP
  have f3 := kindP
  have f4 := kindV
  have f5 := elemP
  have f6 := implV
  have n8 := fun X => isNilP ⟨w.heap.size, 0, none⟩ ⟨tb, 0, none⟩ ((w.alloc (.cells #[.pointer (some ⟨tb, 0, none⟩)] 97)).alloc X) (by rw [World.cell?_alloc_past _ _ _ (by simp)]; exact World.cell?_alloc_new _ _ _ 0)
  have hg2 : ∀ X Y : Obj, ((w.alloc X).alloc Y).cell? ⟨6, 0, none⟩ = some (.iface 167 (.agg #[.pointer (some ⟨10, 66, none⟩)])) := fun X Y => by
    rw [World.cell?_alloc_past _ _ _ (by simp; omega), World.cell?_alloc_past _ _ _ zg]; exact hg
  have HI := hide (as_chain l a)
  obtain ⟨T, x, hx⟩ := chn_form l a
  rw [hx] at HI ⊢
  clear hx
  go_enter Tryz.func48, Tryz.ntmps48
  go_wp2_with fail
  refine (unhide HI _ _ _ ⟨_, rfl⟩).mono ?_
  rintro e w1 ⟨rfl, hb⟩
  have HB := hide (belThen (belThen (bel1 _) (bel1 _)) hb)
  clear hb
  go_wp2_with fail
  go_ret
  exact ⟨rfl, unhide HB⟩
end Go.Proofs.YtcnmajndackohaaGreatDoor
