import Derived.Test.YtcnmajndackohaaGreatDoorMg11
/-
  What a step of a play does: Other.
-/
namespace Go.Proofs.YtcnmajndackohaaGreatDoor
open Go.RowKit

/-- A packet of none, if it is taken. -/
def Pst.oth (s : Pst) (z : Int) : Pst := { s with x := (s.x.other z).2, other := if (s.x.other z).1 = 0 then s.other ++ [z] else s.other }
theorem other_two (x : Ln) {z : Int} (z0 : 1 ≤ z) (z1 : z ≤ 8) : (x.other z).1 = 0 ∨ (x.other z).1 = 6 := by
  unfold Ln.other
  rw [if_neg (by omega)]
  split
  · exact .inr rfl
  · exact .inl rfl

set_option maxRecDepth 100000 in
set_option maxHeartbeats 2000000 in
theorem act_other {W : World} {R : World → Nat → Ln → (Nat → Prop) → Prop} (K : LineJ W R) (w : World) (b : Nat) (s : Pst) (n : Nat) (q : Stp) (h : PlayAt W R w b s) (hs : Sml s.x n) (hn : n < 2000000) (hg : s.other.length ≤ 1000000000) (hk : q.kind = 2) (a0 : -9223372036854775808 ≤ q.a) (a1 : q.a ≤ 9223372036854775807) :
    Calls Tryz.prog 38 #[.pointer (some ⟨b, 0, none⟩), q.agg] w fun e w' => e = .returned (.bool true) ∧ PlayAt W R w' b (s.oth (1 + pk q.a 8)) := by
  have HA := hide (h.only K (bel_one (.cells #[.int .i64 2, .int .i64 q.a, .int .i64 q.b, .int .i64 q.f.s, .int .i64 q.f.p, .int .i64 q.f.b, .int .i64 q.f.r, .int .i64 q.f.d] 48)))
  have HS := hide hs
  have HK := hide K
  have k0 := pk_nonneg q.a 8 (by decide)
  have k1 := pk_lt q.a 8 (by decide)
  have HPk := hide (pick_any q.a 8)
  have HO2 := hide (other_two s.x (z := 1 + pk q.a 8) (by omega) (by omega))
  have HOy := hide (show (s.x.other (1 + pk q.a 8)).1 = 0 → s.oth (1 + pk q.a 8) = { s with x := (s.x.other (1 + pk q.a 8)).2, other := s.other ++ [1 + pk q.a 8] } from fun e => by unfold Pst.oth; rw [if_pos e])
  have HOn := hide (show (s.x.other (1 + pk q.a 8)).1 = 6 → s.oth (1 + pk q.a 8) = { s with x := (s.x.other (1 + pk q.a 8)).2 } from fun e => by unfold Pst.oth; rw [if_neg (by omega)])
  unfold Stp.agg
  rw [hk]
  obtain ⟨i0, hi0, hz0, hz1, hz2⟩ := info_any infoInt
  have HI0 := hide hi0
  have HZ0 := hide hz0
  have HZ1 := hide hz1
  have HZ2 := hide hz2
  have hbl : b < w.heap.size := by obtain ⟨o, P, F, vf, vs, vo, vg, inn, hp⟩ := h; exact hp.blk.lt
  clear h hs K hk hi0 hz0 hz1 hz2
  generalize hz : pk q.a 8 = z0 at *
  have HZ := hide hz
  clear hz
  have ez : IntKind.i64.wrap (1 + z0) = 1 + z0 := by go_arith
  obtain ⟨o, P, F, vf, vs, vo, vg, inn, hp⟩ := unhide HA
  have HP := hide hp
  have c0 := hp.blk.cell (j := 0) rfl
  clear hp HA
  go_enter Tryz.func38, Tryz.ntmps38
  go_wp2_with fail
  refine (unhide HPk _ a0 a1 (by decide) (by decide)).mono ?_
  rintro e w1 ⟨rfl, rfl⟩
  go_wp2_with fail
  refine ((unhide HK).other _ P s.x F n (1 + z0) (unhide HP).bl (unhide HP).line (unhide HS) (by omega) (by omega) (by omega)).mono ?_
  rintro e w2 ⟨rfl, F2, hR2, ho2, hF2⟩
  obtain ⟨o2, hp2, _⟩ := (unhide HP).lined hR2 ho2 hF2 (fun i hi => ((unhide HK).ge hR2 i hi).2)
  have HP2 := hide hp2
  have c3 := hp2.blk.cell (j := 3) rfl
  have hb2 := hp2.blk.lt
  clear hp2 hR2 ho2 hF2 c0
  generalize hx : (s.x.other (1 + z0)).2 = x2 at *
  clear hx
  rcases unhide HO2 with he | he
  · have HE := hide (unhide HOy he)
    rw [he]
    have HB := hide (show Below w2.heap.size w2 (w2.alloc (.cells #[.int .i64 (1 + z0)] 3)) from bel_one _)
    have c3A := (World.cell?_alloc_past (w := w2) (.cells #[.int .i64 (1 + z0)] 3) b 3 hb2).trans c3
    clear he HO2 HOy HOn
    go_wp2_with (at_builtin; refine wpList_append_lies _ (by rfl) _ _ 27 (by rfl) 0 3 i0 _ 1 8 Tryz.underlying27 (unhide HI0) (unhide HZ0) (unhide HZ1) (unhide HZ2) rfl (by omega) vo s.other.length (icells s.other) (by rfl) (World.ownsRow.alloc (unhide HP2).ot.1 _) ⟨w2.heap.size, 0, none⟩ 1 1 [.int .i64 (1 + z0)] (by rfl) (by rfl) (World.news_of_block (cs := #[.int .i64 (1 + z0)]) (t := 3) (fr := (0, 0)) (heap_alloc_new w2 _)) (by simp [Value.oneCell']) (by omega) (by unfold maxLen; omega) (by omega) (Nat.zero_le _) (w2.heap.size + 1) (by simp) ?_; intro g5 cap5 w5 hown5 hgrow5 hat5 hlt5; have hX := (unhide HP2).otOn (unhide HK) (unhide HB) hown5 hgrow5 (fun g' hg' => hat5.imp (fun e => e.trans hg') (fun e => by have e' : g5 = g' := Option.some.inj hg'; omega)); have c5 := hX.1.cell (j := 3) rfl; have z5 := hX.1.frozen 3)
    have HX := hide hX.2
    clear hX hown5 hgrow5 hat5 hlt5
    go_wp2_with fail
    go_ret
    refine ⟨rfl, ?_⟩
    rw [unhide HE]
    exact ⟨_, _, _, _, _, _, _, _, unhide HX⟩
  · have HE := hide (unhide HOn he)
    rw [he]
    clear he HO2 HOy HOn
    go_wp2_with fail
    go_ret
    refine ⟨rfl, ?_⟩
    rw [unhide HE]
    exact ⟨_, _, _, _, _, _, _, _, unhide HP2⟩
end Go.Proofs.YtcnmajndackohaaGreatDoor
/-
  What a step of a play does: Send.
-/
namespace Go.Proofs.YtcnmajndackohaaGreatDoor
open Go.RowKit

theorem row_at {w : World} {b : Nat} {t : TypeId} {size : Nat} {g n cap : Nat} {cs : List Value} (h : w.ownsRow b t size (.slice (some ⟨g, 0, none⟩) n cap) n cs) {j : Nat} {u : Value} (hu : cs[j]? = some u) : w.cell? ⟨g, j, none⟩ = some u := by
  have := World.ownsRow.cells h (g := g) rfl j u hu
  rwa [show (⟨g, 0, none⟩ : Addr).add j = ⟨g, j, none⟩ from by unfold Addr.add; split <;> simp_all] at this
/-- What always holds of a play. -/
structure Pin (s : Pst) : Prop where
  fl : s.x.fl.map Stt.f = s.fl
  se : s.sent.length = s.fl.length
  may : ∀ f ∈ s.fl, f.may
/-- A packet of a flow, if it is taken. -/
def Pst.snd (s : Pst) (k : Nat) (z : Int) : Pst := { s with x := (s.x.send k z).2, sent := if (s.x.send k z).1 = 0 then (match s.sent[k]? with | some l => s.sent.set k (l ++ [z]) | none => s.sent) else s.sent }
theorem send_three (x : Ln) {k : Nat} {z : Int} (z0 : 1 ≤ z) (z1 : ∀ st, x.fl[k]? = some st → z ≤ st.f.s) : (x.send k z).1 = 0 ∨ (x.send k z).1 = 6 ∨ (x.send k z).1 = 4 := by
  unfold Ln.send
  cases h : x.at? k with
  | none => exact .inr (.inr rfl)
  | some st =>
    have hs : x.fl[k]? = some st := by
      unfold Ln.at? at h
      rw [if_pos (by omega), Int.toNat_natCast] at h
      exact h
    have := z1 st hs
    simp only
    split
    · exact .inr (.inr rfl)
    · rw [if_neg (by omega)]
      split
      · exact .inr (.inl rfl)
      · exact .inl rfl

set_option maxRecDepth 100000 in
set_option maxHeartbeats 2000000 in
theorem act_send {W : World} {R : World → Nat → Ln → (Nat → Prop) → Prop} (K : LineJ W R) (w : World) (b : Nat) (s : Pst) (n : Nat) (q : Stp) (h : PlayAt W R w b s) (hs : Sml s.x n) (hi : Pin s) (hn : n < 2000000) (hf0 : 0 < s.fl.length) (hf1 : s.fl.length ≤ 100000) (hsl : ∀ l ∈ s.sent, l.length ≤ 1000000) (hk : q.kind = 1) (a0 : -9223372036854775808 ≤ q.a) (a1 : q.a ≤ 9223372036854775807) (b0 : -9223372036854775808 ≤ q.b) (b1 : q.b ≤ 9223372036854775807)
    (k : Nat) (hkk : pk q.a s.fl.length = (k : Int)) (z : Int) (hz : ∀ f, s.fl[k]? = some f → z = 1 + pk q.b f.s) :
    Calls Tryz.prog 38 #[.pointer (some ⟨b, 0, none⟩), q.agg] w fun e w' => e = .returned (.bool true) ∧ PlayAt W R w' b (s.snd k z) := by
  obtain ⟨y, rfl⟩ : ∃ y, z = 1 + y := ⟨z - 1, by omega⟩
  have hklt : k < s.fl.length := by have := pk_lt q.a s.fl.length (by omega); omega
  have hfk : s.fl[k]? = some s.fl[k] := List.getElem?_eq_getElem hklt
  have hmay := hi.may s.fl[k] (List.getElem_mem hklt)
  have hz' := hz _ hfk
  have hp0 := pk_nonneg q.b s.fl[k].s (by have := hmay.s0; omega)
  have hp1 := pk_lt q.b s.fl[k].s (by have := hmay.s0; omega)
  have HS3 := hide (send_three s.x (k := k) (z := 1 + y) (by omega) (fun st hst => by
    have e : s.fl[k]? = some st.f := by rw [← hi.fl, List.getElem?_map, hst]; rfl
    have e2 : s.fl[k] = st.f := Option.some.inj (hfk.symm.trans e)
    rw [← e2]; omega))
  have hsk : k < s.sent.length := by rw [hi.se]; exact hklt
  have HOy := hide (show (s.x.send k (1 + y)).1 = 0 → s.snd k (1 + y) = { s with x := (s.x.send k (1 + y)).2, sent := s.sent.set k (s.sent[k] ++ [1 + y]) } from fun e => by
    unfold Pst.snd; rw [if_pos e, List.getElem?_eq_getElem hsk])
  have HOn := hide (show (s.x.send k (1 + y)).1 ≠ 0 → s.snd k (1 + y) = { s with x := (s.x.send k (1 + y)).2 } from fun e => by unfold Pst.snd; rw [if_neg e])
  have hll := hsl s.sent[k] (List.getElem_mem hsk)
  have HSk := hide (List.getElem?_eq_getElem hsk)
  have HA := hide (h.only K (bel_one (.cells #[.int .i64 1, .int .i64 q.a, .int .i64 q.b, .int .i64 q.f.s, .int .i64 q.f.p, .int .i64 q.f.b, .int .i64 q.f.r, .int .i64 q.f.d] 48)))
  have HS := hide hs
  have HK := hide K
  have HPa := hide (pick_any q.a s.fl.length)
  rw [hkk] at HPa
  have HPb := hide (pick_any q.b s.fl[k].s)
  rw [show pk q.b s.fl[k].s = y by omega] at HPb
  have hsz : 2 ≤ s.fl[k].s ∧ s.fl[k].s ≤ 8 := ⟨hmay.s0, hmay.s1⟩
  have HFk := hide (fcells_at s.fl k hklt).1
  have hzb : 0 ≤ y ∧ y < 8 := by omega
  have ey : IntKind.i64.wrap (1 + y) = 1 + y := by go_arith
  unfold Stp.agg
  rw [hk]
  obtain ⟨i0, hi0, hz0, hz1, hz2⟩ := info_any infoInt
  have HI0 := hide hi0
  have HZ0 := hide hz0
  have HZ1 := hide hz1
  have HZ2 := hide hz2
  have hbl : b < w.heap.size := by obtain ⟨o, P, F, vf, vs, vo, vg, inn, hp⟩ := h; exact hp.blk.lt
  clear h hs K hk hi0 hz0 hz1 hz2 hi hsl hkk hz hfk hmay hz' hp0 hp1
  obtain ⟨o, P, F, vf, vs, vo, vg, inn, hp⟩ := unhide HA
  have HP := hide hp
  have c0 := hp.blk.cell (j := 0) rfl
  have c1 := hp.blk.cell (j := 1) rfl
  obtain ⟨gf, cf, hfv, hfc⟩ := row_cell hp.fl.1 hf0
  subst hfv
  have f0 := hfc _ _ (unhide HFk)
  clear HFk
  have HFc := hide (ownsRow_lt hp.fl.1 gf rfl).2
  generalize s.fl[k].s = fs at *
  clear hp HA hfc
  generalize hnf : s.fl.length = nf at *
  have hnf1 : (nf : Int) ≤ 100000 := by omega
  have hnf0 : (0 : Int) < (nf : Int) := by omega
  have hnz : ((nf : Int) == 0) = false := by simp; omega
  have hkl : (k : Int) < (nf : Int) := by omega
  have HNf := hide hnf
  clear hnf
  have pa := World.cell?_alloc_new w #[.int .i64 1, .int .i64 q.a, .int .i64 q.b, .int .i64 q.f.s, .int .i64 q.f.p, .int .i64 q.f.b, .int .i64 q.f.r, .int .i64 q.f.d] 48 1
  have pb := World.cell?_alloc_new w #[.int .i64 1, .int .i64 q.a, .int .i64 q.b, .int .i64 q.f.s, .int .i64 q.f.p, .int .i64 q.f.b, .int .i64 q.f.r, .int .i64 q.f.d] 48 2
  go_enter Tryz.func38, Tryz.ntmps38
  go_wp2_with fail
  generalize w.alloc (.cells #[.int .i64 1, .int .i64 q.a, .int .i64 q.b, .int .i64 q.f.s, .int .i64 q.f.p, .int .i64 q.f.b, .int .i64 q.f.r, .int .i64 q.f.d] 48) = wA at *
  generalize w.heap.size = X at *
  go_region_held3 (fun w' => w'.cell? ⟨X, 1, none⟩ = some (.int .i64 q.a) ∧ w'.cell? ⟨b, 1, none⟩ = some (.slice (some ⟨gf, 0, none⟩) nf cf))
    (first | exact ⟨pa, c1⟩ | assumption)
    (first | (go_at_call 55; refine (unhide HPa _ a0 a1 (by omega) (by omega)).mono ?_; rintro e w' ⟨rfl, rfl⟩))
  go_wp2_with fail
  go_region_held3 (fun w' => w'.cell? ⟨X, 2, none⟩ = some (.int .i64 q.b) ∧ w'.cell? ⟨b, 1, none⟩ = some (.slice (some ⟨gf, 0, none⟩) nf cf) ∧ w'.cell? ⟨gf, k * 5, none⟩ = some (.int .i64 fs))
    (first | exact ⟨pb, c1, f0⟩ | assumption)
    (first | (go_at_call 55; refine (unhide HPb _ b0 b1 (by omega) (by omega)).mono ?_; rintro e w' ⟨rfl, rfl⟩))
  go_wp2_with fail
  have HPd := hide (((unhide HP).drew (unhide HK)).drew (unhide HK))
  refine ((unhide HK).send _ P s.x F n k (1 + y) (unhide HPd).bl (unhide HPd).line (unhide HS) (by omega) (by omega) (by omega) (by omega) (by omega)).mono ?_
  rintro e w2 ⟨rfl, F2, hR2, ho2, hF2⟩
  obtain ⟨o2, hp2, _⟩ := (unhide HPd).lined hR2 ho2 hF2 (fun i hi => ((unhide HK).ge hR2 i hi).2)
  have HP2 := hide hp2
  clear hp2 hR2 ho2 hF2 c0 c1 f0 pa pb HP HPd HPa HPb
  generalize hx : (s.x.send k (1 + y)).2 = x2 at *
  clear hx
  rcases unhide HS3 with he | he
  · have HE := hide (unhide HOy he)
    rw [he]
    clear he HS3 HOy HOn
    have hil := (unhide HP2).il
    have hki : k < inn.length := by rw [hil]; exact hsk
    obtain ⟨gs, cs, hvs, hsc⟩ := row_cell (unhide HP2).se.1 (by omega)
    subst hvs
    obtain ⟨v, hv, hrv⟩ := (unhide HP2).ins k s.sent[k] (unhide HSk)
    obtain ⟨ai, ci, rfl⟩ := row_len hrv.1
    have c2 := (unhide HP2).blk.cell (j := 2) rfl
    have ck := hsc k _ hv
    have hb2 := (unhide HP2).blk.lt
    have hgs2 := (ownsRow_lt (unhide HP2).se.1 gs rfl).2
    have c2A := (World.cell?_alloc_past (w := w2) (.cells #[.int .i64 (1 + y)] 3) b 2 hb2).trans c2
    have ckA := (World.cell?_alloc_past (w := w2) (.cells #[.int .i64 (1 + y)] 3) gs k hgs2).trans ck
    have HB := hide (show Below w2.heap.size w2 (w2.alloc (.cells #[.int .i64 (1 + y)] 3)) from bel_one _)
    have HBd := hide (show Below w2.heap.size w2 (w2.alloc (.cells #[.int .i64 (1 + y)] 3)).drew from (bel_one _).drew)
    have HRv := hide hrv
    have HV := hide hv
    have hkI : (k : Int) < (inn.length : Int) := by omega
    generalize hll2 : s.sent[k] = lk at *
    clear hrv hv hsc hll2 hil
    go_wp2_with fail
    go_region_law (refine step_append_lies _ rfl (.tmp 65) (.tmp 67) 27 rfl 0 3 i0 _ 1 8 Tryz.underlying27 (unhide HI0) (unhide HZ0) (unhide HZ1) (unhide HZ2) rfl (by omega) (.slice ai lk.length ci) lk.length (icells lk) (by rfl) (World.ownsRow.drew (World.ownsRow.alloc (unhide HRv).1 _)) ⟨w2.heap.size, 0, none⟩ 1 1 [.int .i64 (1 + y)] (by rfl) (by rfl) (World.news_of_block (cs := #[.int .i64 (1 + y)]) (t := 3) (fr := (0, 0)) (heap_alloc_new w2 _)) (by simp [Value.oneCell']) (by omega) (by unfold maxLen; omega) (by omega) (Nat.zero_le _) (w2.heap.size + 1) (World.size_alloc _ _) ?_; intro g5 cap5 w5 hown5 hgrow5 hat5 hlt5; have hX := (unhide HP2).inOn (unhide HK) (unhide HSk) (unhide HV) (unhide HBd) hown5 hgrow5 (fun g' hg' => hat5.imp (fun e => e.trans hg') (fun e => by have e' : g5 = g' := Option.some.inj hg'; omega)); have c5 := hX.2.2.1.cell (j := 2) rfl; have k5 := row_at hX.1 (unhide HV); have z5 := hX.2.1)
    all_goals
      have HX := hide hX.2.2.2
      clear hX hown5 hgrow5 hat5 hlt5
      go_wp2_with fail
      go_ret
      refine ⟨rfl, ?_⟩
      rw [unhide HE]
      exact ⟨_, _, _, _, _, _, _, _, unhide HX⟩
  · have HE := hide (unhide HOn (by omega))
    rcases he with he | he
    · rw [he]
      clear he HS3 HOy HOn
      go_wp2_with fail
      go_ret
      refine ⟨rfl, ?_⟩
      rw [unhide HE]
      exact ⟨_, _, _, _, _, _, _, _, unhide HP2⟩
    · rw [he]
      clear he HS3 HOy HOn
      go_wp2_with fail
      go_ret
      refine ⟨rfl, ?_⟩
      rw [unhide HE]
      exact ⟨_, _, _, _, _, _, _, _, unhide HP2⟩
end Go.Proofs.YtcnmajndackohaaGreatDoor
/-
  What a step of a play does; how great the numbers are.
-/
namespace Go.Proofs.YtcnmajndackohaaGreatDoor
open Go.RowKit

/-- A flow that comes, if it may. -/
def Pst.stp (s : Pst) (f : Fl) : Pst := if (s.x.setup f).1.2.2 = 0 then { s with x := (s.x.setup f).2, fl := s.fl ++ [f], sent := s.sent ++ [[]] } else s
/-- A flow that goes. -/
def Pst.trn (s : Pst) (k : Nat) : Pst := { s with x := (s.x.teardown k).2 }
theorem setup_no {x : Ln} {f : Fl} (h : ¬ (x.setup f).1.2.2 = 0) : (x.setup f).2 = x := by
  unfold Ln.setup at h ⊢
  split
  · rfl
  · rename_i h1
    rw [if_neg h1] at h
    split
    · rfl
    · rename_i h2
      rw [if_neg h2] at h
      split
      · rfl
      · rename_i h3
        rw [if_neg h3] at h
        exact absurd rfl h
theorem setup_yes {x : Ln} {f : Fl} (h : (x.setup f).1.2.2 = 0) : x.setup f = (((x.fl.length : Int), 0, 0), { x with fl := x.fl ++ [⟨f, 0⟩] }) := by
  unfold Ln.setup at h ⊢
  split
  · rename_i h1
    rw [if_pos h1] at h; cases h
  · rename_i h1
    rw [if_neg h1] at h
    split
    · rename_i h2
      rw [if_pos h2] at h; cases h
    · rename_i h2
      rw [if_neg h2] at h
      split
      · rename_i h3
        rw [if_pos h3] at h; cases h
      · rfl
/-- A step. -/
def Pst.act (s : Pst) (q : Stp) : Pst :=
  if q.kind = 1 then
    match s.fl[(pk q.a s.fl.length).toNat]? with
    | some f => s.snd (pk q.a s.fl.length).toNat (1 + pk q.b f.s)
    | none => s
  else if q.kind = 2 then s.oth (1 + pk q.a 8)
  else if q.kind = 3 then s.runs (pk q.a 30)
  else if q.kind = 4 then s.stp (Go.Proofs.YtcnmajndackohaaGreatDoor.mk q.f)
  else if q.kind = 5 then (if s.fl.length = 0 then s else s.trn (pk q.a s.fl.length).toNat)
  else s
/-- How great a play's numbers are behind n steps. -/
structure Bnd (s : Pst) (n : Nat) : Prop where
  x : Sml s.x n
  go : s.gone.length ≤ 1000000 * n
  se : ∀ l ∈ s.sent, l.length ≤ n
  ot : s.other.length ≤ n
theorem Bnd.mono {s : Pst} {n m : Nat} (h : Bnd s n) (hm : n ≤ m) : Bnd s m := ⟨h.x.mono hm, by have := h.go; omega, fun l hl => by have := h.se l hl; omega, by have := h.ot; omega⟩
theorem Bnd.runs {s : Pst} {n : Nat} (h : Bnd s n) (hn : n < 1000) (t : Int) : Bnd (s.runs t) (n + 1) := by
  have hs := (h.x.run t)
  refine ⟨hs.gone, ?_, fun l hl => by have := h.se l hl; omega, by have := h.ot; show s.other.length ≤ _; omega⟩
  show (s.gone ++ (s.x.run t).2.gone.1).length ≤ _
  have a := gone_len (s.x.run t).2
  have b := hs.bg
  have c := h.go
  rw [List.length_append]
  omega
theorem Bnd.oth {s : Pst} {n : Nat} (h : Bnd s n) (z : Int) : Bnd (s.oth z) (n + 1) := by
  refine ⟨h.x.other z, by have := h.go; show s.gone.length ≤ _; omega, fun l hl => by have := h.se l hl; omega, ?_⟩
  show (if _ then _ else _ : List Int).length ≤ _
  have := h.ot
  split
  · simp; omega
  · omega
theorem Bnd.snd {s : Pst} {n : Nat} (h : Bnd s n) (k : Nat) (z : Int) : Bnd (s.snd k z) (n + 1) := by
  refine ⟨h.x.send k z, by have := h.go; show s.gone.length ≤ _; omega, fun l hl => ?_, by have := h.ot; show s.other.length ≤ _; omega⟩
  have hl' : l ∈ (if (s.x.send k z).1 = 0 then (match s.sent[k]? with | some l => s.sent.set k (l ++ [z]) | none => s.sent) else s.sent) := hl
  have old : ∀ l ∈ s.sent, l.length ≤ n + 1 := fun l hl => by have := h.se l hl; omega
  split at hl'
  · split at hl'
    · rename_i l0 e
      rcases List.mem_or_eq_of_mem_set hl' with q | q
      · exact old l q
      · rw [q]
        have := h.se l0 (List.mem_of_getElem? e)
        simp; omega
    · exact old l hl'
  · exact old l hl'
theorem Bnd.stp {s : Pst} {n : Nat} (h : Bnd s n) (f : Fl) : Bnd (s.stp f) n := by
  unfold Pst.stp
  split
  · refine ⟨setup_cases (P := fun y => Sml y n) h.x fun _ _ => ⟨h.x.now, h.x.pk, h.x.rd, h.x.bg⟩, h.go, fun l hl => ?_, h.ot⟩
    rcases List.mem_append.1 hl with q | q
    · exact h.se l q
    · rw [List.mem_singleton.1 q]; exact Nat.zero_le _
  · exact h
theorem away_same (x : Ln) : x.away.now = x.now ∧ x.away.pk = x.pk ∧ x.away.began = x.began := by unfold Ln.away; split <;> exact ⟨rfl, rfl, rfl⟩
theorem drp_sks (now k : Int) (l : List Pk) : (l.map (drp now k)).map Pk.sk = l.map Pk.sk := by
  rw [List.map_map]
  exact List.map_congr_left fun p _ => (same_drp (now := now) k).sk p
theorem Sml.teardown {x : Ln} {n : Nat} (h : Sml x n) (k : Int) : Sml (x.teardown k).2 n := by
  refine teardown_cases (P := fun y => Sml y n) h fun st _ _ => ?_
  obtain ⟨e1, e2, e3⟩ := away_same { x with fl := x.fl.set k.toNat ⟨st.f, 1⟩, pk := x.pk.map (drp x.now k) }
  refine sml_sk h (by rw [e1]; exact h.now) (by rw [e2]; exact drp_sks _ _ _) (Nat.le_refl _) (by rw [e3]; exact h.bg)
theorem Bnd.trn {s : Pst} {n : Nat} (h : Bnd s n) (k : Nat) : Bnd (s.trn k) n := ⟨h.x.teardown k, h.go, h.se, h.ot⟩
theorem Bnd.act {s : Pst} {n : Nat} (h : Bnd s n) (hn : n < 1000) (q : Stp) : Bnd (s.act q) (n + 1) := by
  unfold Pst.act
  split
  · split
    · exact h.snd _ _
    · exact h.mono (Nat.le_succ _)
  · split
    · exact h.oth _
    · split
      · exact h.runs hn _
      · split
        · exact (h.stp _).mono (Nat.le_succ _)
        · split
          · split
            · exact h.mono (Nat.le_succ _)
            · exact (h.trn _).mono (Nat.le_succ _)
          · exact h.mono (Nat.le_succ _)
theorem ticks_fl : ∀ (n : Nat) (x : Ln), (x.ticks n).fl.map Stt.f = x.fl.map Stt.f
  | 0, _ => rfl
  | n + 1, x => by
    show (x.tick.ticks n).fl.map Stt.f = _
    rw [ticks_fl n x.tick]
    have ha : x.away.fl.map Stt.f = x.fl.map Stt.f := by
      unfold Ln.away
      split
      · rfl
      · show (x.fl.map gone1).map Stt.f = _
        rw [List.map_map]
        exact List.map_congr_left fun st _ => gone1_f st
    have hb : ∀ y : Ln, y.begins.fl = y.fl := fun y => by
      unfold Ln.begins
      split
      · rfl
      · split <;> rfl
    show x.away.begins.fl.map Stt.f = _
    rw [hb, ha]
theorem Pin.runs {s : Pst} (h : Pin s) (t : Int) : Pin (s.runs t) := by
  refine ⟨?_, h.se, h.may⟩
  show (s.x.run t).2.gone.2.fl.map Stt.f = s.fl
  show (s.x.run t).2.fl.map Stt.f = s.fl
  rw [← h.fl]
  unfold Ln.run
  split
  · rfl
  · exact ticks_fl _ _
theorem Pin.oth {s : Pst} (h : Pin s) (z : Int) : Pin (s.oth z) := by
  refine ⟨?_, h.se, h.may⟩
  show (s.x.other z).2.fl.map Stt.f = s.fl
  exact other_cases (P := fun y => y.fl.map Stt.f = s.fl) h.fl fun _ => h.fl
theorem Pin.snd {s : Pst} (h : Pin s) (k : Nat) (z : Int) : Pin (s.snd k z) := by
  refine ⟨?_, ?_, h.may⟩
  · show (s.x.send k z).2.fl.map Stt.f = s.fl
    exact send_cases (P := fun y => y.fl.map Stt.f = s.fl) h.fl fun _ _ _ _ => h.fl
  · show (if (s.x.send k z).1 = 0 then (match s.sent[k]? with | some l => s.sent.set k (l ++ [z]) | none => s.sent) else s.sent).length = s.fl.length
    rw [← h.se]
    split
    · split
      · rw [List.length_set]
      · rfl
    · rfl
theorem Pin.stp {s : Pst} (h : Pin s) {f : Fl} (hf : f.may) : Pin (s.stp f) := by
  unfold Pst.stp
  split
  · rename_i e
    refine ⟨?_, ?_, fun g hg => ?_⟩
    · show (s.x.setup f).2.fl.map Stt.f = s.fl ++ [f]
      rw [setup_yes e]
      show (s.x.fl ++ [(⟨f, 0⟩ : Stt)]).map Stt.f = _
      rw [List.map_append, h.fl]; rfl
    · show (s.sent ++ [[]]).length = (s.fl ++ [f]).length
      rw [List.length_append, List.length_append, h.se]; rfl
    · rcases List.mem_append.1 hg with q | q
      · exact h.may g q
      · rw [List.mem_singleton.1 q]; exact hf
  · exact h
theorem away_fs (x : Ln) : x.away.fl.map Stt.f = x.fl.map Stt.f := by
  unfold Ln.away
  split
  · rfl
  · show (x.fl.map gone1).map Stt.f = _
    rw [List.map_map]
    exact List.map_congr_left fun st _ => gone1_f st
theorem set_fs : ∀ (l : List Stt) (k : Nat) (st : Stt), l[k]? = some st → (l.set k ⟨st.f, 1⟩).map Stt.f = l.map Stt.f
  | [], _, _, h => by cases h
  | a :: l, 0, st, h => by
    obtain rfl : a = st := Option.some.inj h
    rfl
  | a :: l, k + 1, st, h => by
    show a.f :: (l.set k ⟨st.f, 1⟩).map Stt.f = a.f :: l.map Stt.f
    rw [set_fs l k st h]
theorem Pin.trn {s : Pst} (h : Pin s) (k : Nat) : Pin (s.trn k) := by
  refine ⟨?_, h.se, h.may⟩
  show (s.x.teardown k).2.fl.map Stt.f = s.fl
  refine teardown_cases (P := fun y => y.fl.map Stt.f = s.fl) h.fl fun st ha _ => ?_
  rw [away_fs]
  obtain ⟨_, hk⟩ := at_some ha
  exact (set_fs _ _ _ hk).trans h.fl
theorem Pin.act {s : Pst} (h : Pin s) (q : Stp) : Pin (s.act q) := by
  unfold Pst.act
  split
  · split
    · exact h.snd _ _
    · exact h
  · split
    · exact h.oth _
    · split
      · exact h.runs _
      · split
        · exact h.stp (mk_may _)
        · split
          · split
            · exact h
            · exact h.trn _
          · exact h
theorem act_len (s : Pst) (q : Stp) : (s.act q).fl.length ≤ s.fl.length + 1 := by
  unfold Pst.act
  split
  · split <;> exact Nat.le_succ _
  · split
    · exact Nat.le_succ _
    · split
      · exact Nat.le_succ _
      · split
        · unfold Pst.stp
          split
          · show (s.fl ++ [_]).length ≤ _
            rw [List.length_append]; exact Nat.le_refl _
          · exact Nat.le_succ _
        · split
          · split <;> exact Nat.le_succ _
          · exact Nat.le_succ _
theorem run_zero (x : Ln) {t : Int} (h0 : 0 ≤ t) (h1 : t ≤ 200) : (x.run t).1 = 0 := by unfold Ln.run; rw [if_neg (by omega)]

set_option maxRecDepth 100000 in
set_option maxHeartbeats 2000000 in
theorem act_send0 {W : World} {R : World → Nat → Ln → (Nat → Prop) → Prop} (K : LineJ W R) (w : World) (b : Nat) (s : Pst) (q : Stp) (h : PlayAt W R w b s) (hf0 : s.fl.length = 0) (hk : q.kind = 1) :
    Calls Tryz.prog 38 #[.pointer (some ⟨b, 0, none⟩), q.agg] w fun e w' => e = .returned (.bool true) ∧ PlayAt W R w' b s := by
  have HA := hide (h.only K (bel_one (.cells #[.int .i64 1, .int .i64 q.a, .int .i64 q.b, .int .i64 q.f.s, .int .i64 q.f.p, .int .i64 q.f.b, .int .i64 q.f.r, .int .i64 q.f.d] 48)))
  unfold Stp.agg
  rw [hk]
  clear h hk K
  obtain ⟨o, P, F, vf, vs, vo, vg, inn, hp⟩ := unhide HA
  obtain ⟨af, cf, rfl⟩ := row_len hp.fl.1
  have c1 := hp.blk.cell (j := 1) rfl
  simp only [hf0] at c1
  clear hp
  go_enter Tryz.func38, Tryz.ntmps38
  go_wp2_with fail
  go_ret
  exact ⟨rfl, unhide HA⟩

end Go.Proofs.YtcnmajndackohaaGreatDoor
