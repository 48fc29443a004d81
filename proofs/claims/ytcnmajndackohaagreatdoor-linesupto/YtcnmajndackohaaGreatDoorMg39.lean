import Derived.Test.YtcnmajndackohaaGreatDoorMg35
import Derived.Test.YtcnmajndackohaaGreatDoorMg37
/-
  Plain: a flow that goes: the program's line and the document's.
-/
namespace Go.Proofs.YtcnmajndackohaaGreatDoor
/-- Those that go with their flow. -/
def bad (now k : Int) (p : Pk) : Prop := p.flow = k ∧ p.start < 0 ∧ (p.ready < 0 ∨ now < p.ready)
theorem drp_bad {now k : Int} {p : Pk} (h : bad now k p) : drp now k p = { p with dropped := true } := if_pos h
theorem drp_good {now k : Int} {p : Pk} (h : ¬ bad now k p) : drp now k p = p := if_neg h
theorem wt_bad {now k : Int} {p : Pk} (h : bad now k p) : wt (drp now k p) = false := by rw [drp_bad h]; unfold wt; simp
theorem drp_told (now k : Int) (p : Pk) : (drp now k p).told = p.told := by unfold drp; split <;> rfl
theorem filter_drp {now k : Int} {c : Pk → Bool} {l : List Pk} (h : ∀ p ∈ l, bad now k p → c p = false ∧ c (drp now k p) = false) : (l.map (drp now k)).filter c = l.filter c := by
  induction l with
  | nil => rfl
  | cons p l ih =>
    have ih' := ih fun q hq => h q (List.mem_cons_of_mem _ hq)
    rw [List.map_cons]
    by_cases b : bad now k p
    · obtain ⟨h1, h2⟩ := h p (List.mem_cons_self ..) b
      rw [List.filter_cons_of_neg (by rw [h2]; decide), List.filter_cons_of_neg (by rw [h1]; decide), ih']
    · rw [drp_good b, List.filter_cons, List.filter_cons, ih']
theorem countP_split {α : Type} (a b : α → Bool) (l : List α) : l.countP a = (l.countP fun x => a x && b x) + l.countP fun x => a x && !b x := by
  induction l with
  | nil => rfl
  | cons x l ih =>
    simp only [List.countP_cons]
    cases a x <;> cases b x <;> simp <;> omega
section
variable {x : Ln} {s : PS} {rel : Int → Int}
def FS.gone (f : FS) : FS := { f with wa := f.wa - f.L.length, vh := .slice none 0 0, L := [], torn := true }
def Ln.torn (x : Ln) (k : Nat) (f : Fl) : Ln := { x with fl := x.fl.set k ⟨f, 1⟩, pk := x.pk.map (drp x.now k) }
theorem Sim.torn (h : Sim x s rel) (hr : Rld s) {k : Nat} {f : FS} (hf : s.fs k = some f) (ht : f.torn = false) (o : Whose) :
    Sim (x.torn k f.f) { s with fs := upd s.fs k f.gone, o := o } rel ∧ Rld { s with fs := upd s.fs k f.gone, o := o } := by
  obtain ⟨st, hst, ef, ei⟩ := h.alive hf ht
  have est : st = ⟨f.f, 0⟩ := by rw [ef, ← ei]
  have hst0 : x.fl[k]? = some ⟨f.f, 0⟩ := by rw [hst, est]
  have hl : k < x.fl.length := (List.getElem?_eq_some_iff.1 hst).1
  have hat : x.at? (k : Int) = some st := by unfold Ln.at?; rw [if_pos (by omega), Int.toNat_natCast]; exact hst
  have sm := same_drp (now := x.now) (k : Int)
  have hel := h.el hr
  have hbq : ∀ p ∈ x.pk, bad x.now k p → quB rel p = false := fun p hp hb => by
    rw [hel p hp, ← Bool.not_eq_true, elB_iff]
    rintro ⟨⟨_, _, h1, h2⟩, _⟩
    obtain ⟨_, _, h3⟩ := hb
    omega
  have hnw : ∀ (c : Pk → Bool), (∀ p, c p = true → wt p = true) → ∀ p, bad x.now k p → c (drp x.now k p) = false := fun c hc p hb => by
    rw [← Bool.not_eq_true]
    intro g
    have := hc _ g
    rw [wt_bad hb] at this
    cases this
  have hqf : (x.pk.map (drp x.now k)).filter (quB rel) = x.pk.filter (quB rel) := filter_drp fun p hp hb => ⟨hbq p hp hb, hnw (quB rel) (fun q hq => ((quB_iff _ _).1 hq).2.1) p hb⟩
  have hmem : ∀ q ∈ x.pk.map (drp x.now k), ∃ p ∈ x.pk, q = drp x.now k p := fun q hq => by
    obtain ⟨p, hp, rfl⟩ := List.mem_map.1 hq
    exact ⟨p, hp, rfl⟩
  have hkeep : ∀ p, wt (drp x.now k p) = true → drp x.now k p = p ∧ ¬ bad x.now k p := fun p hw => by
    have : ¬ bad x.now k p := fun hb => by rw [wt_bad hb] at hw; cases hw
    exact ⟨drp_good this, this⟩
  -- what waits of the flow stands in the queue
  have hin : ∀ p ∈ x.pk, wt p = true → ¬ bad x.now k p → p.flow = (k : Int) → p.seq < rel k := fun p hp hw hb hfl => by
    obtain ⟨w1, w2⟩ := (wt_iff p).1 hw
    have hq : quB rel p = true := by
      rw [hel p hp, elB_iff]
      have hbb : ¬ (p.ready < 0 ∨ x.now < p.ready) := fun c => hb ⟨hfl, w1, c⟩
      exact ⟨⟨w1, w2, by omega, by omega⟩, by simp; omega⟩
    have := ((quB_iff _ _).1 hq).2.2
    rwa [hfl] at this
  have hseq : ∀ j : Int, (x.torn k f.f).seqOf j = x.seqOf j := fun j => by
    unfold Ln.seqOf
    show (x.pk.map (drp x.now k)).countP _ = _
    rw [List.countP_map]
    exact List.countP_congr fun p _ => by simp only [Function.comp, sm.flow]
  have hsk : (x.pk.map (drp x.now k)).map Pk.sk = x.pk.map Pk.sk := by
    rw [List.map_map]
    exact List.map_congr_left fun p _ => sm.sk p
  have hdue : ∀ j, dueOf (x.fl.set k ⟨f.f, 1⟩) j = dueOf x.fl j := fun j => due_set x.fl k f.f 1 0 j hst0
  have hisS : ∀ j : Int, 0 ≤ j → isOf (x.fl.set k ⟨f.f, 1⟩) j = if j = k then 1 else isOf x.fl j := fun j hj => is_set x.fl k f.f 1 j hl hj
  refine ⟨⟨?_, ?_, ?_, ?_, ?_, ?_, ?_, h.now, ?_, ?_, ?_, ?_, ?_, ?_, ?_⟩, ?_⟩
  · obtain ⟨B, hB⟩ := h.od
    have := od_torn hB hat ei
    rw [Int.toNat_natCast, ← ef] at this
    exact ⟨B, this⟩
  · intro q hq hx
    obtain ⟨p, hp, rfl⟩ := hmem q hq
    obtain ⟨e, _⟩ := hkeep p ((quB_iff _ _).1 hx).2.1
    rw [e] at hx ⊢
    exact h.rr p hp hx
  · intro q hq q0 qw qi
    obtain ⟨p, hp, rfl⟩ := hmem q hq
    obtain ⟨e, hb⟩ := hkeep p qw
    rw [e] at q0 qw qi ⊢
    have qi' : isOf (x.fl.set k ⟨f.f, 1⟩) p.flow = 1 := qi
    rw [hisS _ q0] at qi'
    by_cases g : p.flow = (k : Int)
    · rw [g]; exact hin p hp qw hb g
    · rw [if_neg g] at qi'; exact h.lg p hp q0 qw qi'
  · intro q hq q0 qw
    obtain ⟨p, hp, rfl⟩ := hmem q hq
    obtain ⟨e, hb⟩ := hkeep p qw
    rw [e] at q0 qw ⊢
    show isOf (x.fl.set k ⟨f.f, 1⟩) p.flow < 2
    rw [hisS _ q0]
    split
    · decide
    · exact h.aw p hp q0 qw
  · intro q hq qt
    obtain ⟨p, hp, rfl⟩ := hmem q hq
    rw [drp_told] at qt
    rw [sm.st, sm.size]
    exact h.tl p hp qt
  · intro j
    rw [hseq]; exact h.rb j
  · intro z hz
    rcases List.mem_or_eq_of_mem_set (show z ∈ x.fl.set k ⟨f.f, 1⟩ from hz) with g | rfl
    · exact h.is z g
    · exact .inr (.inl rfl)
  · show s.num = (x.fl.set k ⟨f.f, 1⟩).length
    rw [List.length_set]; exact h.num
  · intro j
    show (∃ g, upd s.fs k f.gone j = some g) ↔ ∃ z, (x.fl.set k ⟨f.f, 1⟩)[j]? = some z ∧ z.is < 2
    by_cases e : j = k
    · subst e
      rw [upd_same, List.getElem?_set_self hl]
      exact ⟨fun _ => ⟨_, rfl, (by decide : (1 : Int) < 2)⟩, fun _ => ⟨_, rfl⟩⟩
    · rw [upd_far _ _ e, List.getElem?_set_ne (fun c => e c.symm)]
      exact h.dom j
  · intro j g hg
    have hg' : upd s.fs k f.gone j = some g := hg
    by_cases e : j = k
    · subst e
      rw [upd_same] at hg'
      obtain rfl := Option.some.inj hg'
      obtain ⟨st', q1, q2, q3, q4, q5, q6, q7⟩ := h.val j f hf
      rw [hst] at q1
      obtain rfl := Option.some.inj q1
      refine ⟨⟨f.f, 1⟩, List.getElem?_set_self hl, rfl, rfl, ?_, ?_, ?_, ?_⟩
      · rw [hseq]; exact q4
      · show f.wa - f.L.length = _
        rw [q5, q6, ← List.countP_eq_length_filter]
        unfold Ln.waiting
        show _ = (((x.pk.map (drp x.now j)).countP _ : Nat) : Int)
        rw [List.countP_map, countP_split (fun p => decide (p.flow = (j : Int)) && decide (p.start < 0) && !p.dropped) (fun p => decide (rel j ≤ p.seq)) x.pk]
        have a1 : (x.pk.countP fun p => (decide (p.flow = (j : Int)) && decide (p.start < 0) && !p.dropped) && decide (rel j ≤ p.seq)) = x.pk.countP (hdB j (rel j)) := List.countP_congr fun p _ => by
          unfold hdB wt
          simp only [Bool.and_eq_true, decide_eq_true_eq, Bool.not_eq_true']
          constructor <;> (intro c; simp only [c, and_self])
        have a2 : (x.pk.countP fun p => (decide (p.flow = (j : Int)) && decide (p.start < 0) && !p.dropped) && !decide (rel j ≤ p.seq)) = x.pk.countP ((fun p => decide (p.flow = (j : Int)) && decide (p.start < 0) && !p.dropped) ∘ drp x.now j) := List.countP_congr fun p hp => by
          simp only [Function.comp, Bool.and_eq_true, decide_eq_true_eq, Bool.not_eq_true', decide_eq_false_iff_not]
          constructor
          · rintro ⟨⟨⟨c1, c2⟩, c3⟩, c4⟩
            have hw : wt p = true := (wt_iff p).2 ⟨c2, c3⟩
            have nb : ¬ bad x.now j p := fun hb => by
              have hq := hbq p hp hb
              rw [(quB_iff rel p).2 ⟨by omega, hw, by rw [c1]; omega⟩] at hq
              cases hq
            rw [drp_good nb]
            exact ⟨⟨c1, c2⟩, c3⟩
          · rintro ⟨⟨c1, c2⟩, c3⟩
            obtain ⟨e, nb⟩ := hkeep p ((wt_iff _).2 ⟨c2, c3⟩)
            rw [e] at c1 c2 c3
            have := hin p hp ((wt_iff p).2 ⟨c2, c3⟩) nb c1
            exact ⟨⟨⟨c1, c2⟩, c3⟩, by omega⟩
        rw [a1, a2]
        omega
      · show [] = (x.pk.map (drp x.now j)).filter (hdB j (rel j))
        symm
        rw [List.filter_eq_nil_iff]
        intro q hq c
        obtain ⟨p, hp, rfl⟩ := hmem q hq
        obtain ⟨c1, c2, c3⟩ := (hdB_iff _ _ _).1 c
        obtain ⟨e, nb⟩ := hkeep p c2
        rw [e] at c1 c2 c3
        have := hin p hp c2 nb c1
        omega
      · rw [ef]; exact q7.same hsk
    · rw [upd_far _ _ e] at hg'
      obtain ⟨z, q1, q2, q3, q4, q5, q6, q7⟩ := h.val j g hg'
      have hne : ∀ p, bad x.now k p → p.flow ≠ (j : Int) := fun p hb c => e (by have := hb.1; omega)
      refine ⟨z, ?_, q2, q3, ?_, ?_, ?_, q7.same hsk⟩
      · show (x.fl.set k ⟨f.f, 1⟩)[j]? = some z
        rw [List.getElem?_set_ne (fun c => e c.symm)]; exact q1
      · rw [hseq]; exact q4
      · rw [q5]
        unfold Ln.waiting
        show _ = (((x.pk.map (drp x.now k)).countP _ : Nat) : Int)
        rw [List.countP_map]
        congr 1
        refine List.countP_congr fun p _ => ?_
        show _ ↔ (decide ((drp x.now k p).flow = (j : Int)) && decide ((drp x.now k p).start < 0) && !(drp x.now k p).dropped) = true
        by_cases hb : bad x.now k p
        · rw [sm.flow]
          simp [hne p hb]
        · rw [drp_good hb]
      · show g.L = (x.pk.map (drp x.now k)).filter (hdB j (rel j))
        rw [filter_drp]
        · exact q6
        · intro p _ hb
          constructor
          · rw [← Bool.not_eq_true, hdB_iff]; exact fun c => hne p hb c.1
          · rw [← Bool.not_eq_true, hdB_iff, sm.flow]; exact fun c => hne p hb c.1
  · show s.H.Perm (((x.pk.map (drp x.now k)).filter (quB rel)).map fun p => enP p (dueOf (x.fl.set k ⟨f.f, 1⟩) p.flow))
    rw [hqf]
    have : (fun p : Pk => enP p (dueOf (x.fl.set k ⟨f.f, 1⟩) p.flow)) = fun p => enP p (dueOf x.fl p.flow) := by funext p; rw [hdue]
    rw [this]; exact h.H
  · show s.O = (x.pk.map (drp x.now k)).filter othB
    rw [filter_drp]
    · exact h.O
    · intro p _ hb
      have := hb.1
      constructor
      · rw [← Bool.not_eq_true, othB_iff]; omega
      · rw [← Bool.not_eq_true, othB_iff, sm.flow]; omega
  · rw [hseq]; exact h.br
  · show s.G = untoldL (x.pk.map (drp x.now k)) x.began
    rw [h.G]
    unfold untoldL
    congr 1
    refine fm_congr _ _ _ fun i hi => ?_
    obtain ⟨p, hp, h0⟩ := h.inv.bg i hi
    show x.pk[i]? = (x.pk.map (drp x.now k))[i]?
    rw [List.getElem?_map, hp, Option.map_some, drp_started h0]
  · intro j g p tl hg hL
    have hg' : upd s.fs k f.gone j = some g := hg
    by_cases e : j = k
    · subst e
      rw [upd_same] at hg'
      obtain rfl := Option.some.inj hg'
      cases hL
    · rw [upd_far _ _ e] at hg'
      exact hr j g p tl hg' hL
end
end Go.Proofs.YtcnmajndackohaaGreatDoor
/-
  What the program's Teardown does.
-/
namespace Go.Proofs.YtcnmajndackohaaGreatDoor
open Go.RowKit
attribute [local go_sem ↓] Go.wp_at_zero Go.wp_at_succ
theorem FS.set15 (f : FS) (v : Bool) : f.cs.setIfInBounds 15 (.bool v) = { f with torn := v }.cs := rfl
theorem PM.setTorn {w : World} {P : Nat} {s : PS} (h : PM w P s) {k : Nat} {f : FS} (hf : s.fs k = some f) (v : Bool) : PTo w P s (w.setCell ⟨f.a, 15, none⟩ (.bool v)) { s with fs := upd s.fs k { f with torn := v } } := by
  have hfm := h.fl k f hf
  have hO : Only (fun i => i = f.a) w (w.setCell ⟨f.a, 15, none⟩ (.bool v)) := only_set w f.a 15 _
  have hq : ∀ i, i = f.a → s.o i = 7 + 2 * k := fun i e => by rw [e]; exact hfm.ob
  have hI := hfm.blk.set 15 (.bool v)
  rw [FS.set15] at hI
  refine ⟨h.flowTo hf (hO.mono fun i _ e => .inl (hq i e)) (fun _ _ => rfl) (fun i hi => h.free i (Nat.le_trans hO.size hi)) ⟨hI, hfm.ob, ?_⟩ rfl, hO.mono fun i _ e => by rw [hq i e]; omega, fun _ _ => rfl, rfl⟩
  exact hfm.hl.keep hO (fun i e => by rw [hq i e]; omega) (fun _ _ => rfl)
set_option maxRecDepth 100000 in
set_option maxHeartbeats 4000000 in
theorem ptear_none (w : World) (P : Nat) (s : PS) (h : PM w P s) (k : Int) (hk0 : -9223372036854775808 ≤ k) (hk1 : k ≤ 9223372036854775807) (hf : NoLive s k) (a : Nat → Addr) (a0 a1 : Addr) (hg : GlA w a a0 a1) :
    Calls Tryz.prog 87 #[.pointer (some ⟨s.Q, 0, none⟩), .int .i64 k] w fun e w' => (∃ l, e = .returned (chn l (a 3))) ∧ Below w.heap.size w w' := by
  have HL := hide (plive_bad w P s h k hk0 hk1 hf a hg.s)
  have HA := hide (fun W (hW : Below w.heap.size w W) => atflow_any { data := #[84, 101, 97, 114, 100, 111, 119, 110] } k [] (a 3) W a a0 a1 hk0 hk1 (hg.below hW))
  rw [show chn [] (a 3) = .iface 242 (.pointer (some (a 3))) from rfl] at HA
  clear h hf hg
  go_enter Tryz.func87, Tryz.ntmps87
  go_wp2_with fail
  refine (unhide HL).mono ?_
  rintro e w1 ⟨rfl, hb1⟩
  have HB1 := hide hb1
  have HA1 := hide (unhide HA w1 hb1)
  clear hb1 HL HA
  go_wp2_with fail
  refine (unhide HA1).mono ?_
  rintro e w2 ⟨⟨l', rfl⟩, hb2⟩
  have HB2 := hide (bel_then (unhide HB1) hb2)
  obtain ⟨E, HE⟩ : ∃ E, Hid (chn l' (a 3) = E) := ⟨_, hide rfl⟩
  rw [unhide HE]
  clear hb2 HA1
  go_wp2_with fail
  go_ret
  exact ⟨⟨l', ret_val (unhide HE).symm⟩, unhide HB2⟩
set_option maxRecDepth 100000 in
set_option maxHeartbeats 4000000 in
theorem ptear_ok (w : World) (P : Nat) (x : Ln) (s : PS) (rel : Int → Int) (k : Nat) (h : PM w P s) (hs : Sim x s rel) (hb : Lbn x) (hk1 : (k : Int) ≤ 9223372036854775807) (f : FS) (hf : s.fs k = some f) (ht : f.torn = false) :
    Calls Tryz.prog 87 #[.pointer (some ⟨s.Q, 0, none⟩), .int .i64 (k : Int)] w fun e w' => e = .returned .nilIface ∧ PSto w P s w' (x.torn k f.f).away := by
  have HL := hide (plive_some w P s h k hk1 f hf ht)
  have HRel := hide (prelease w P s h (fun v => ∃ r, Sim x v r) ⟨rel, hs⟩ (fun a c ha hr => let ⟨r, hr'⟩ := ha; hr'.rel1 (by have := hb.now; omega) hr) (fun a ha => let ⟨r, hr'⟩ := ha; hr'.rgo hb))
  have HB := hide hb
  have HF := hide hf
  have HS := hide hs
  have HTn := hide ht
  clear h hs hb hf ht
  go_enter Tryz.func87, Tryz.ntmps87
  go_wp2_with fail
  refine (unhide HL).mono ?_
  rintro e w1 ⟨rfl, rfl⟩
  clear HL
  go_wp2_with fail
  refine (unhide HRel).mono ?_
  rintro e w2 ⟨rfl, s2, ⟨r2, hY2⟩, hT2, hSt2, hD2⟩
  obtain ⟨f2, hf2, ha2, hsh2, htn2⟩ : ∃ f2, s2.fs k = some f2 ∧ f2.a = f.a ∧ f2.f = f.f ∧ f2.torn = false := by
    have h1 := congrFun hSt2.a k
    unfold adrs at h1
    rw [unhide HF] at h1
    cases hf2 : s2.fs k with
    | none => rw [hf2] at h1; cases h1
    | some f2 =>
      rw [hf2] at h1
      obtain ⟨st, q1, q2, q3, _⟩ := (unhide HS).val k f (unhide HF)
      obtain ⟨st', p1, p2, p3, _⟩ := hY2.val k f2 hf2
      rw [q1] at p1
      obtain rfl := Option.some.inj p1
      exact ⟨f2, rfl, Option.some.inj h1, p2.trans q2.symm, p3.trans (q3.symm.trans (unhide HTn))⟩
  have HT2 := hide hT2
  have HY2 := hide hY2
  have HRld := hide (hSt2.rld hD2)
  have HF2 := hide hf2
  have HSh := hide hsh2
  have HTn2 := hide htn2
  have hfm := hT2.pm.fl k f2 hf2
  obtain ⟨av, cv, hvh⟩ := hfm.hlLen
  have HVh := hide hvh
  have c13 := hfm.c13
  have c14 := hfm.c14
  have z13 := hfm.blk.frozen 13
  rw [hvh] at c14
  rw [ha2] at c13 c14 z13
  obtain ⟨_, _, _, _, _, e5, e6, _⟩ := hY2.val k f2 hf2
  have hwl := hY2.wait_le (k : Int)
  have hLl : f2.L.length ≤ x.pk.length := by rw [e6]; exact List.length_filter_le _ _
  have hpk := (unhide HB).pk
  have hw0 : 0 ≤ f2.wa := by omega
  have hw1 : f2.wa ≤ 4000000 := by omega
  have hl1 : (f2.L.length : Int) ≤ 4000000 := by omega
  have HA2 := hide ha2
  clear hT2 hY2 hSt2 hD2 hf2 hsh2 htn2 hfm hvh e5 e6 hwl hLl hpk ha2 HRel HTn HS
  have hwr : IntKind.i64.wrap (f2.wa - (f2.L.length : Int)) = f2.wa - (f2.L.length : Int) := by go_arith
  go_wp2_with fail
  refine wp_region_held_drew (S := (fun w' : World => w'.cell? ⟨f.a, 14, none⟩ = some (.slice av f2.L.length cv))) (by kernel_rfl) c14 (fun hHeld => ?_)
  refine wpAnyH_take (i := 0) (v := ?_) rfl (by kernel_rfl) (by kernel_rfl) (by kernel_rfl) (fun _ _ _ h => h) (Or.inl ⟨by rfl, ?_⟩) (by assumption) ?_
  rotate_left
  · intro w hSw; (try dsimp only at hSw); go_simp; (try rfl)
  (try go_frame)
  refine wpAnyH_take (i := 1) (v := ?_) rfl (by kernel_rfl) (by kernel_rfl) (by kernel_rfl) (fun _ _ _ h => h) (Or.inl ⟨by rfl, ?_⟩) (by assumption) ?_
  rotate_left
  · intro w hSw; (try dsimp only at hSw); go_simp; (try rfl)
  (try go_frame)
  refine wpAnyH_take (i := 2) (v := ?_) rfl (by kernel_rfl) (by kernel_rfl) (by kernel_rfl) (fun _ _ _ h => h) (Or.inl ⟨by rfl, ?_⟩) (by assumption) ?_
  rotate_left
  · intro w hSw; (try dsimp only at hSw); go_simp; (try rfl)
  (try go_frame)
  refine wpAnyH_take (i := 4) (v := ?_) rfl (by kernel_rfl) (by kernel_rfl) (by kernel_rfl) (fun _ _ _ h => h) (Or.inl ⟨by rfl, ?_⟩) (by assumption) ?_
  rotate_left
  · intro w hSw; (try dsimp only at hSw); go_simp; (try rfl)
  (try go_frame)
  refine wpAnyH_take (i := 5) (v := ?_) rfl (by kernel_rfl) (by kernel_rfl) (by kernel_rfl) (fun _ _ _ h => h) (Or.inl ⟨by rfl, ?_⟩) (by assumption) ?_
  rotate_left
  · intro w hSw; (try dsimp only at hSw); go_simp; (try rfl)
  (try go_frame)
  refine wpAnyH_take (i := 6) (v := ?_) rfl (by kernel_rfl) (by kernel_rfl) (by kernel_rfl) (fun _ _ _ h => h) (Or.inl ⟨by rfl, ?_⟩) (by assumption) ?_
  rotate_left
  · intro w hSw; (try dsimp only at hSw); go_simp; (try rfl)
  (try go_frame)
  refine wpAnyH_take (i := 7) (v := ?_) rfl (by kernel_rfl) (by kernel_rfl) (by kernel_rfl) (fun _ _ _ h => h) (Or.inl ⟨by rfl, ?_⟩) (by assumption) ?_
  rotate_left
  · intro w hSw; (try dsimp only at hSw); go_simp; (try rfl)
  (try go_frame)
  refine wpAnyH_take (i := 8) (v := ?_) rfl (by kernel_rfl) (by kernel_rfl) (by kernel_rfl) (fun _ _ _ h => h) (Or.inl ⟨by rfl, ?_⟩) (by assumption) ?_
  rotate_left
  · intro w hSw; (try dsimp only at hSw); go_simp; (try rfl)
  (try go_frame)
  refine wpAnyH_ready (rs := [3]) (by kernel_rfl) (by simp) (AllReadyH.cons rfl (fun K hK => ?_) AllReadyH.nil)
  go_simp
  refine hK.out _ _ c14 (fun hHeld => ?_)
  clear hK K
  (try go_frame)
  refine wpAnyH_take (i := 9) (v := ?_) rfl (by kernel_rfl) (by kernel_rfl) (by kernel_rfl) (fun _ _ _ h => h) (Or.inl ⟨by rfl, ?_⟩) (by assumption) ?_
  rotate_left
  · intro w hSw; (try dsimp only at hSw); go_simp; (try rfl)
  (try go_frame)
  refine wpAnyH_take (i := 10) (v := ?_) rfl (by kernel_rfl) (by kernel_rfl) (by kernel_rfl) (fun _ _ _ h => h) (Or.inl ⟨by rfl, ?_⟩) (by assumption) ?_
  rotate_left
  · intro w hSw; (try dsimp only at hSw); go_simp; (try rfl)
  (try go_frame)
  refine wpAnyH_take (i := 11) (v := ?_) rfl (by kernel_rfl) (by kernel_rfl) (by kernel_rfl) (fun _ _ _ h => h) (Or.inl ⟨by rfl, ?_⟩) (by assumption) ?_
  rotate_left
  · intro w hSw; (try dsimp only at hSw); go_simp; (try rfl)
  (try go_frame)
  refine wpAnyH_ready (rs := [12]) (by kernel_rfl) (by simp) (AllReadyH.cons rfl (fun K hK => ?_) AllReadyH.nil)
  go_simp
  have e13 : (⟨f2.a, 13, none⟩ : Addr) = ⟨f.a, 13, none⟩ := by rw [unhide HA2]
  have e14 : (⟨f2.a, 14, none⟩ : Addr) = ⟨f.a, 14, none⟩ := by rw [unhide HA2]
  have e15 : (⟨f2.a, 15, none⟩ : Addr) = ⟨f.a, 15, none⟩ := by rw [unhide HA2]
  have hT2d := (unhide HT2).trans ((unhide HT2).pm.setWa (unhide HF2) (f2.wa - (f2.L.length : Int)))
  rw [e13] at hT2d
  have hT3 := hT2d.below (Below.refl _ (w2.setCell ⟨f.a, 13, none⟩ (.int .i64 (f2.wa - (f2.L.length : Int))))).drew
  have hf3 := hT3.pm.fl k _ (upd_same _ _ _)
  have d14 := hf3.c14
  rw [show (⟨f2.a, 14, none⟩ : Addr) = ⟨f.a, 14, none⟩ from e14, unhide HVh] at d14
  have HT3 := hide hT3
  refine hK.out _ _ d14 (fun hHeld => ?_)
  clear hK K
  refine wpAnyH_done (by kernel_rfl) ?_ _
  clear hHeld c13 c14 z13 hT2d hT3
  have d15 := hf3.c15
  have y14 := hf3.blk.frozen 14
  have y15 := hf3.blk.frozen 15
  rw [show (⟨f2.a, 15, none⟩ : Addr) = ⟨f.a, 15, none⟩ from e15, unhide HTn2] at d15
  rw [show (⟨f2.a, 14, none⟩ : Addr) = ⟨f.a, 14, none⟩ from e14] at y14
  rw [show (⟨f2.a, 15, none⟩ : Addr) = ⟨f.a, 15, none⟩ from e15] at y15
  have hT4 := (unhide HT3).trans ((unhide HT3).pm.setHeld (k := k) (upd_same _ _ _) (v := .slice none 0 0) (L := []) ⟨off_nil _ _ _, fun g hg => (by cases hg)⟩)
  have hT5 := hT4.trans (hT4.pm.setTorn (k := k) (upd_same _ _ _) true)
  rw [show (⟨f2.a, 14, none⟩ : Addr) = ⟨f.a, 14, none⟩ from e14, show (⟨f2.a, 15, none⟩ : Addr) = ⟨f.a, 15, none⟩ from e15] at hT5
  have hfs : upd (upd (upd s2.fs k { f2 with wa := f2.wa - (f2.L.length : Int) }) k { f2 with wa := f2.wa - (f2.L.length : Int), vh := .slice none 0 0, L := [] }) k { f2 with wa := f2.wa - (f2.L.length : Int), vh := .slice none 0 0, L := [], torn := true } = upd s2.fs k f2.gone := by
    rw [upd_upd, upd_upd]; rfl
  have hT6 : PTo w1 P s (((w2.setCell ⟨f.a, 13, none⟩ (.int .i64 (f2.wa - (f2.L.length : Int)))).drew.setCell ⟨f.a, 14, none⟩ (.slice none 0 0)).setCell ⟨f.a, 15, none⟩ (.bool true)) { s2 with fs := upd s2.fs k f2.gone } := by rw [← hfs]; exact hT5
  have HT6 := hide hT6
  clear hf3 hT4 hT5 hT6 hfs HT3
  generalize (w2.setCell ⟨f.a, 13, none⟩ (.int .i64 (f2.wa - (f2.L.length : Int)))).drew = W3 at *
  have hTo := (unhide HY2).torn (unhide HRld) (unhide HF2) (unhide HTn2) s2.o
  have hG6 : s2.G.length ≤ 1000000000 := by have := (unhide HY2).Glen; have := (unhide HB).pk; omega
  have hG7 : ({ s2 with fs := upd s2.fs k f2.gone } : PS).G.length ≤ 1000000000 := hG6
  generalize ({ s2 with fs := upd s2.fs k f2.gone } : PS) = s6 at HT6 hTo hG7
  have hq6 := (unhide HT6).q
  have HS6 := hide (psettle _ P s6 (unhide HT6).pm hG7 (fun j g hg => by
    have := hTo.1.lt hg
    have h2 : (x.torn k f2.f).fl.length = x.fl.length := by show (x.fl.set k _).length = _; rw [List.length_set]
    have := (unhide HB).fl
    omega))
  have HTo := hide hTo
  rw [hq6] at HS6
  clear hTo hq6 hG6 hG7 e13 e14 e15
  go_wp2_with fail
  refine (unhide HS6).mono ?_
  rintro e w7 ⟨rfl, hT7⟩
  have HT7 := hide ((unhide HT6).trans hT7)
  clear hT7
  go_wp2_with fail
  go_ret
  refine ⟨rfl, _, r2, unhide HT7, ?_⟩
  rw [← unhide HSh]
  exact ((unhide HTo).1.settle (unhide HTo).2).1
end Go.Proofs.YtcnmajndackohaaGreatDoor
