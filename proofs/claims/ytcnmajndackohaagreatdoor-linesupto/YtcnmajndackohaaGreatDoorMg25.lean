import Derived.Test.YtcnmajndackohaaGreatDoorMg24
/-
  What the program's Send does where it takes no packet.
-/
namespace Go.Proofs.YtcnmajndackohaaGreatDoor
open Go.RowKit
attribute [local go_sem ↓] Go.wp_at_zero Go.wp_at_succ
/-- No flow of this number lives. -/
def NoLive (s : PS) (k : Int) : Prop := mAt (adrs s.fs) k = none ∨ ∃ (j : Nat) (f : FS), k = (j : Int) ∧ s.fs j = some f ∧ f.torn = true
theorem plive_bad (w : World) (P : Nat) (s : PS) (h : PM w P s) (k : Int) (hk0 : -9223372036854775808 ≤ k) (hk1 : k ≤ 9223372036854775807) (hf : NoLive s k) (a : Nat → Addr) (hs : Snt w a) :
    Calls Tryz.prog 63 #[.pointer (some ⟨s.Q, 0, none⟩), .int .i64 k] w fun e w' => e = .returned (.tuple #[.pointer none, .iface 242 (.pointer (some (a 3)))]) ∧ Below w.heap.size w w' := by
  have hE := hs.c 3 (by decide)
  rcases hf with hf | ⟨j, f, rfl, hf, ht⟩
  · exact plive_none w P s h k hk0 hk1 hf _ _ hE
  · exact plive_torn w P s h j hk1 f hf ht _ _ hE
set_option maxRecDepth 100000 in
set_option maxHeartbeats 4000000 in
theorem psend_none (w : World) (P : Nat) (s : PS) (h : PM w P s) (k size : Int) (hk0 : -9223372036854775808 ≤ k) (hk1 : k ≤ 9223372036854775807) (hf : NoLive s k) (a : Nat → Addr) (a0 a1 : Addr) (hg : GlA w a a0 a1) :
    Calls Tryz.prog 44 #[.pointer (some ⟨s.Q, 0, none⟩), .int .i64 k, .int .i64 size] w fun e w' => (∃ l, e = .returned (chn l (a 3))) ∧ Below w.heap.size w w' := by
  have HL := hide (plive_bad w P s h k hk0 hk1 hf a hg.s)
  have HA := hide (fun W (hW : Below w.heap.size w W) => atflow_any { data := #[83, 101, 110, 100] } k [] (a 3) W a a0 a1 hk0 hk1 (hg.below hW))
  rw [show chn [] (a 3) = .iface 242 (.pointer (some (a 3))) from rfl] at HA
  clear h hf hg
  go_enter Tryz.func44, Tryz.ntmps44
  go_wp2_with fail
  refine (unhide HL).mono ?_
  rintro e w1 ⟨rfl, hb1⟩
  have HB1 := hide hb1
  have HA1 := hide (unhide HA w1 hb1)
  clear hb1 HL HA
  go_wp2_with fail
  refine (unhide HA1).mono ?_
  rintro e w2 ⟨⟨l', rfl⟩, hb2⟩
  have HB2 := hide (bel_then (unhide HB1) hb2)
  obtain ⟨E, HE⟩ : ∃ E, Hid (chn l' (a 3) = E) := ⟨_, hide rfl⟩
  rw [unhide HE]
  clear hb2 HA1
  go_wp2_with fail
  go_ret
  exact ⟨⟨l', ret_val (unhide HE).symm⟩, unhide HB2⟩
theorem heldC_below {w0 W w1 : World} {a : Nat → Addr} {a0 a1 : Addr} {b o1 o2 : Nat} {E F : Value} (hb : Below W.heap.size W w1)
    (h : W.cell? ⟨b, o1, none⟩ = some E ∧ W.cell? ⟨b, o2, none⟩ = some F ∧ GlA W a a0 a1 ∧ Below w0.heap.size w0 W) : w1.cell? ⟨b, o1, none⟩ = some E ∧ w1.cell? ⟨b, o2, none⟩ = some F ∧ GlA w1 a a0 a1 ∧ Below w0.heap.size w0 w1 :=
  ⟨(hb.cell (World.block_lt_of_cell? _ _ h.1)).trans h.1, (hb.cell (World.block_lt_of_cell? _ _ h.2.1)).trans h.2.1, h.2.2.1.below hb, bel_then h.2.2.2 hb⟩
theorem heldC_gl {w0 W : World} {a : Nat → Addr} {a0 a1 : Addr} {b o1 o2 : Nat} {E F : Value} (h : W.cell? ⟨b, o1, none⟩ = some E ∧ W.cell? ⟨b, o2, none⟩ = some F ∧ GlA W a a0 a1 ∧ Below w0.heap.size w0 W) : GlA W a a0 a1 := h.2.2.1
set_option maxRecDepth 100000 in
set_option maxHeartbeats 4000000 in
/-- The packet is not taken. -/
theorem psend_bad (w : World) (P : Nat) (s : PS) (h : PM w P s) (k : Nat) (size : Int) (hk1 : (k : Int) ≤ 9223372036854775807) (f : FS) (hf : s.fs k = some f) (ht : f.torn = false) (a : Nat → Addr) (a0 a1 b : Addr) (hg : GlA w a a0 a1)
    (hacc : ∀ W, GlA W a a0 a1 → Calls Tryz.prog 59 #[.int .i64 size, .int .i64 f.f.s, .int .i64 f.wa] W fun e w' => (∃ l, e = .returned (chn l b)) ∧ Below W.heap.size W w') :
    Calls Tryz.prog 44 #[.pointer (some ⟨s.Q, 0, none⟩), .int .i64 (k : Int), .int .i64 size] w fun e w' => (∃ l, e = .returned (chn l b)) ∧ Below w.heap.size w w' := by
  have HL := hide (plive_some w P s h k hk1 f hf ht)
  have HA := hide (fun l W (hW : Below w.heap.size w W) => atflow_any { data := #[83, 101, 110, 100] } (k : Int) l b W a a0 a1 (by omega) hk1 (hg.below hW))
  have HAc := hide hacc
  have hfm := h.fl k f hf
  have c0 := hfm.shape.1
  have c13 := hfm.c13
  have HG := hide hg
  clear h hf ht hg hacc hfm
  go_enter Tryz.func44, Tryz.ntmps44
  go_wp2_with fail
  refine (unhide HL).mono ?_
  rintro e w1 ⟨rfl, rfl⟩
  clear HL
  go_wp2_with fail
  go_region_held3 (fun w' => w'.cell? ⟨f.a, 0, none⟩ = some (.int .i64 f.f.s) ∧ w'.cell? ⟨f.a, 13, none⟩ = some (.int .i64 f.wa) ∧ GlA w' a a0 a1 ∧ Below w1.heap.size w1 w')
    (first | exact ⟨c0, c13, (unhide HG).drew, (Below.refl _ _).drew⟩ | assumption)
    (first | (go_at_call 59; refine (unhide HAc _ (heldC_gl (by assumption))).mono ?_; rintro e w' ⟨⟨l', rfl⟩, hb'⟩; obtain ⟨T, y, hy⟩ := chn_form l' b; have HY := hide hy; rw [hy]; clear hy; have hS' := heldC_below hb' (by assumption)))
  rename_i hH
  have HB1 := hide hH.2.2.2
  have HA1 := hide (unhide HA l' _ hH.2.2.2)
  rw [unhide HY] at HA1
  clear hH hb' hS' HA HAc
  go_wp2_with fail
  refine (unhide HA1).mono ?_
  rintro e w2 ⟨⟨l2, rfl⟩, hb2⟩
  have HB2 := hide (bel_then (unhide HB1) hb2)
  obtain ⟨E, HE⟩ : ∃ E, Hid (chn l2 b = E) := ⟨_, hide rfl⟩
  rw [unhide HE]
  clear hb2 HA1
  go_wp2_with fail
  go_ret
  exact ⟨⟨l2, ret_val (unhide HE).symm⟩, unhide HB2⟩
end Go.Proofs.YtcnmajndackohaaGreatDoor
/-
  What the program's Send does where it takes a packet: the parts.
-/
namespace Go.Proofs.YtcnmajndackohaaGreatDoor
open Go.RowKit
theorem pass_same (g : Gt) (now size : Int) : (g.pass now size).2.peak.most = g.peak.most ∧ (g.pass now size).2.peak.rate = g.peak.rate ∧ (g.pass now size).2.burst.most = g.burst.most ∧ (g.pass now size).2.burst.rate = g.burst.rate := by
  unfold Gt.pass
  split
  · exact ⟨rfl, rfl, rfl, rfl⟩
  · dsimp only
    split <;> exact ⟨rfl, rfl, rfl, rfl⟩
theorem gput_cs (f : FS) (g' : Gt) (h : g'.peak.most = f.g.peak.most ∧ g'.peak.rate = f.g.peak.rate ∧ g'.burst.most = f.g.burst.most ∧ g'.burst.rate = f.g.burst.rate) : gput f.cs 5 g' = { f with g := g' }.cs := by
  obtain ⟨h1, h2, h3, h4⟩ := h
  unfold FS.cs
  rw [h1, h2, h3, h4]
  rfl
theorem gts_cs (f : FS) : Gts f.cs 5 f.g := ⟨⟨rfl, rfl, rfl⟩, ⟨rfl, rfl, rfl⟩, rfl⟩
/-- What is asked of a gate. -/
def Gte (g : Gt) : Prop := g.last ≠ never → g.ok ∧ g.last ≤ 50000000000000000
theorem pass_any (w : World) (P : Nat) (s : PS) (h : PM w P s) (k : Nat) (f : FS) (hf : s.fs k = some f) (now size : Int) (hg : Gte f.g) (n0 : 0 ≤ now) (n1 : now ≤ 50000000000000000) (s0 : 1 ≤ size) (s1 : size ≤ 8) :
    Calls Tryz.prog 65 #[.pointer (some ⟨f.a, 5, none⟩), .int .i64 now, .int .i64 size] w fun e w' => e = .returned (.int .i64 (f.g.pass now size).1) ∧ PTo w P s w' { s with fs := upd s.fs k { f with g := (f.g.pass now size).2 } } ∧ Only (fun i => i = f.a) w w' := by
  have hfm := h.fl k f hf
  have base : Calls Tryz.prog 65 #[.pointer (some ⟨f.a, 5, none⟩), .int .i64 now, .int .i64 size] w fun e w' => e = .returned (.int .i64 (f.g.pass now size).1) ∧ Is w' f.a 130 (gput f.cs 5 (f.g.pass now size).2) ∧ Only (fun x => x = f.a) w w' := by
    by_cases hd : f.g.last = never
    · exact pass_dead f.a 5 f.g now size w _ _ hfm.blk (gts_cs f) hd
    · obtain ⟨hok, hl⟩ := hg hd
      exact pass_live f.a 5 f.g now size w _ _ hfm.blk (gts_cs f) hd hok n0 n1 hl s0 s1
  refine base.mono ?_
  rintro e w' ⟨rfl, hI, hO⟩
  rw [gput_cs f _ (pass_same f.g now size)] at hI
  have hq : ∀ i, i = f.a → s.o i = 7 + 2 * k := fun i e => by rw [e]; exact hfm.ob
  refine ⟨rfl, ⟨h.flowTo hf (hO.mono fun i _ e => .inl (hq i e)) (fun _ _ => rfl) (fun i hi => h.free i (Nat.le_trans hO.size hi)) ⟨hI, hfm.ob, ?_⟩ rfl, hO.mono fun i _ e => by rw [hq i e]; omega, fun _ _ => rfl, rfl⟩, hO⟩
  exact hfm.hl.keep hO (fun i e => by rw [hq i e]; omega) (fun _ _ => rfl)
theorem FS.set12 (f : FS) (v : Int) : f.cs.setIfInBounds 12 (.int .i64 v) = { f with br := v }.cs := rfl
theorem PM.setBr {w : World} {P : Nat} {s : PS} (h : PM w P s) {k : Nat} {f : FS} (hf : s.fs k = some f) (v : Int) : PTo w P s (w.setCell ⟨f.a, 12, none⟩ (.int .i64 v)) { s with fs := upd s.fs k { f with br := v } } := by
  have hfm := h.fl k f hf
  have hO : Only (fun i => i = f.a) w (w.setCell ⟨f.a, 12, none⟩ (.int .i64 v)) := only_set w f.a 12 _
  have hq : ∀ i, i = f.a → s.o i = 7 + 2 * k := fun i e => by rw [e]; exact hfm.ob
  have hI := hfm.blk.set 12 (.int .i64 v)
  rw [FS.set12] at hI
  refine ⟨h.flowTo hf (hO.mono fun i _ e => .inl (hq i e)) (fun _ _ => rfl) (fun i hi => h.free i (Nat.le_trans hO.size hi)) ⟨hI, hfm.ob, ?_⟩ rfl, hO.mono fun i _ e => by rw [hq i e]; omega, fun _ _ => rfl, rfl⟩
  exact hfm.hl.keep hO (fun i e => by rw [hq i e]; omega) (fun _ _ => rfl)
theorem upd_upd (fs : Nat → Option FS) (k : Nat) (f g : FS) : upd (upd fs k f) k g = upd fs k g := by
  funext j
  by_cases e : j = k
  · subst e; rw [upd_same, upd_same]
  · rw [upd_far _ _ e, upd_far _ _ e, upd_far _ _ e]
/-- One more is held back. -/
theorem PM.heldOn {w w1 w2 : World} {P : Nat} {s : PS} {k : Nat} {f : FS} {v' : Value} {p : Pk} (h : PM w P s) (hf : s.fs k = some f) (hb : Below w.heap.size w w1) (hown : World.offRow w2 118 4 v' (f.L.length + 1) (hcells f.L ++ hcs p)) (hgrow : w1.grownBy w2 f.vh.ownBlock) (hat : ∀ g, v'.ownBlock = some g → f.vh.ownBlock = some g ∨ w.heap.size ≤ g) :
    Is w2 f.a 130 f.cs ∧ Only (fun i => s.o i = 8 + 2 * k) w w2 ∧ PTo w P s (w2.setCell ⟨f.a, 14, none⟩ v') { s with fs := upd s.fs k { f with vh := v', L := f.L ++ [p] }, o := s.o.give w.heap.size w2.heap.size (8 + 2 * k) } := by
  have hfm := h.fl k f hf
  have hO1 : Only (fun i => s.o i = 8 + 2 * k) w w2 := (Only.of_below hb).grown hgrow (fun j e _ => hfm.hl.2 j e)
  have hI : Is w2 f.a 130 f.cs := hfm.blk.only hO1 (fun e => by have e' : s.o f.a = 8 + 2 * k := e; rw [hfm.ob] at e'; omega)
  have hO : Only (fun i => s.o i = 7 + 2 * k ∨ s.o i = 8 + 2 * k) w (w2.setCell ⟨f.a, 14, none⟩ v') := (hO1.mono fun i _ e => .inr e).setCell (.inl (.inl hfm.ob))
  have hg : ∀ i, i < w.heap.size → (s.o.give w.heap.size w2.heap.size (8 + 2 * k)) i = s.o i := fun i hi => give_old hi
  have hsz : (w2.setCell ⟨f.a, 14, none⟩ v').heap.size = w2.heap.size := by simp
  have hva : ∀ g, v'.ownBlock = some g → g ≠ f.a := fun g hg' e => by
    rcases hat g hg' with c | c
    · have h1 := hfm.hl.2 g c
      have h2 := hfm.ob
      rw [e] at h1
      omega
    · have := hfm.blk.lt; omega
  have hI2 := hI.set 14 v'
  rw [FS.set14 f v' (f.L ++ [p])] at hI2
  refine ⟨hI, hO1, h.flowTo hf hO hg ?_ ⟨hI2, (hg _ hfm.blk.lt).trans hfm.ob, ?_, fun g hg' => ?_⟩ rfl, hO.mono fun i _ e => by omega, hg, rfl⟩
  · have := give_free (c := 8 + 2 * k) h.free hO1.size
    exact fun i hi => this i (by omega)
  · show World.offRow _ _ 4 v' (f.L ++ [p]).length (hcells (f.L ++ [p]))
    rw [List.length_append, hcells_append]
    refine offRow_only (S := fun i => i = f.a) ?_ (only_set _ _ _ _) (fun g hg' e => hva g hg' e)
    exact hown
  · rcases hat g hg' with c | c
    · exact (hg g (offRow_lt hfm.hl.1 g c)).trans (hfm.hl.2 g c)
    · exact give_new c (offRow_lt hown g hg')
theorem infoPkt : (Tryz.prog.info? 118).map (fun i => (i.zero, i.size, i.bytes)) = some (some (.agg #[.int .i64 0, .int .i64 0, .int .i64 0, .int .i64 0]), 4, 32) := by kernel_rfl
end Go.Proofs.YtcnmajndackohaaGreatDoor
