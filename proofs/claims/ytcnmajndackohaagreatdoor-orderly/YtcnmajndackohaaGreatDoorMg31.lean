import Derived.Test.YtcnmajndackohaaGreatDoorMg30
import Derived.Test.YtcnmajndackohaaGreatDoorMg26
/-
  What the program's Run does.
-/
namespace Go.Proofs.YtcnmajndackohaaGreatDoor
open Go.RowKit
attribute [local go_sem ↓] Go.wp_at_zero Go.wp_at_succ

/-- How a call ends: the line is x then. -/
def PSto (w : World) (P : Nat) (s : PS) (w' : World) (x : Ln) : Prop := ∃ s' rel, PTo w P s w' s' ∧ Sim x s' rel
theorem Stay.rld {s t : PS} (h : Stay s t) (hh : ∀ k f p tl, t.fs k = some f → f.L = p :: tl → s.now < toTick p.ready) : Rld t := fun k f p tl hf hL => by rw [h.n]; exact hh k f p tl hf hL
/-- The tick, one later. -/
theorem PM.setNow {w : World} {P : Nat} {s : PS} (h : PM w P s) (v : Int) : PTo w P s (w.setCell ⟨s.Q, 0, none⟩ (.int .i64 v)) { s with now := v } :=
  h.setQ 0 _ rfl rfl rfl rfl rfl h.rd h.ord h.ot h.be h.hp
theorem settle_now (s : PS) : s.settle.now = s.now ∧ s.settle.Q = s.Q ∧ s.settle.G = s.G := by unfold PS.settle; split <;> exact ⟨rfl, rfl, rfl⟩
theorem Beg.now {s s' : PS} (h : Beg s s') : s'.now = s.now := by
  rcases h with ⟨_, rfl⟩ | ⟨_, _, p, tl, v, vb, o, _, rfl⟩ | ⟨_, e, H', v, vb, o, k, f, _, _, _, _, rfl⟩ <;> rfl
set_option maxRecDepth 100000 in
set_option maxHeartbeats 4000000 in
theorem prun_ok (w : World) (P : Nat) (x : Ln) (s : PS) (rel : Int → Int) (t : Int) (h : PM w P s) (hs : Sim x s rel) (hb : Lbn x) (hn : x.now ≤ 50000000000) (t0 : 0 ≤ t) (t1 : t ≤ 200) :
    Calls Tryz.prog 60 #[.pointer (some ⟨s.Q, 0, none⟩), .int .i64 t] w fun e w' => e = .returned .nilIface ∧ PSto w P s w' (x.ticks t.toNat) := by
  have HH := hide h
  have HS := hide hs
  have HB := hide hb
  have HN := hide hn
  have HRel := hide (fun (W : World) (y : Ln) (u : PS) (hp : PM W P u) (r : Int → Int) (hy : Sim y u r) (b : Lbn y) => prelease W P u hp (fun v => ∃ r, Sim y v r) ⟨r, hy⟩ (fun a c ha hr => let ⟨r, hr'⟩ := ha; hr'.rel1 (by have := b.now; omega) hr) (fun a ha => let ⟨r, hr'⟩ := ha; hr'.rgo b))
  have HSet := hide (fun (W : World) (y : Ln) (u : PS) (hp : PM W P u) (r : Int → Int) (hy : Sim y u r) (b : Lbn y) => psettle W P u hp (by have := hy.Glen; have := b.pk; omega) (hy.bgo b).k1)
  have HBeg := hide (fun (W : World) (y : Ln) (u : PS) (hp : PM W P u) (r : Int → Int) (hy : Sim y u r) (b : Lbn y) => pbegin W P u hp (hy.bgo b))
  clear h hs hb hn
  go_enter Tryz.func60, Tryz.ntmps60
  go_wp2_with fail
  go_loopw [18] (fun v wr => ∃ (i : Nat) (u : PS) (r : Int → Int), v = .int .i64 (i : Int) ∧ (i : Int) ≤ t ∧ PTo w P s wr u ∧ Sim (x.ticks i) u r) (fun v _ => (t - intOf v).toNat)
  case atStart => exact ⟨0, s, rel, rfl, t0, PTo.refl (unhide HH), unhide HS⟩
  case round =>
    obtain ⟨i, u, r, rfl, hi, hT, hY⟩ := hrel
    have HT := hide hT
    have HY := hide hY
    clear hT hY
    by_cases hlt : (i : Int) < t
    · have hq := (unhide HT).q
      have HBi := hide ((unhide HB).ticks (unhide HN) (i := i) (by omega))
      have HR1 := hide (unhide HRel wr (x.ticks i) u (unhide HT).pm r (unhide HY) (unhide HBi))
      rw [hq] at HR1
      go_wp2_with fail
      refine (unhide HR1).mono ?_
      rintro e w1 ⟨rfl, u1, ⟨r1, hY1⟩, hT1, hSt1, hD1⟩
      have HT1 := hide ((unhide HT).trans hT1)
      have HY1 := hide hY1
      have HRld := hide (hSt1.rld hD1)
      have HS1 := hide (unhide HSet w1 (x.ticks i) u1 hT1.pm r1 hY1 (unhide HBi))
      have hq1 := (unhide HT1).q
      rw [hq1] at HS1
      clear hY1 hT1 hSt1 hD1 HR1
      go_wp2_with fail
      refine (unhide HS1).mono ?_
      rintro e w2 ⟨rfl, hT2⟩
      have HT2 := hide ((unhide HT1).trans hT2)
      have hse := (unhide HY1).settle (unhide HRld)
      have HB2 := hide (unhide HBeg w2 (x.ticks i).away u1.settle hT2.pm r1 hse.1 (away_bnd (unhide HBi)))
      have hq2 := (unhide HT2).q
      rw [hq2] at HB2
      clear hT2 hse HS1
      go_wp2_with fail
      refine (unhide HB2).mono ?_
      rintro e w3 ⟨rfl, u3, hBeg, hT3⟩
      have HT3 := hide ((unhide HT2).trans hT3)
      have hY3 := (unhide HY1).tick (unhide HRld) hBeg
      rw [← ticks_succ] at hY3
      have hn3 : u3.now = u1.now := hBeg.now.trans (settle_now u1).1
      have c0 := (unhide HT3).pm.c0
      have z0 := (unhide HT3).pm.inn.frozen 0
      have hq3 := (unhide HT3).q
      rw [hq3] at c0 z0
      rw [hn3] at c0
      have HEnd := hide ((unhide HT3).trans ((unhide HT3).pm.setNow (u1.now + 1)))
      have HY3 := hide hY3
      have HQ3 := hide hq3
      have hb1 := (unhide HBi).now
      have hb0 := (unhide HY1).inv.n0
      have hnow := (unhide HY1).now
      rw [← hnow] at hb1 hb0
      have HNow := hide hnow
      clear hnow hBeg hT3 hY3 hn3 HB2
      go_wp2_with fail
      go_roundw
      case rel => exact ⟨i + 1, _, r1, by go_num, by omega, by rw [← unhide HQ3]; exact unhide HEnd, unhide HY3⟩
      case measure => simp [intOf]; omega
    · have hti : t.toNat = i := by omega
      go_wp2_with fail
      go_ret
      exact ⟨rfl, u, r, unhide HT, unhide HY⟩
set_option maxRecDepth 100000 in
set_option maxHeartbeats 4000000 in
theorem prun_bad (w : World) (Q : Nat) (t : Int) (a : Nat → Addr) (a0 a1 : Addr) (hg : GlA w a a0 a1) (r0 : -9223372036854775808 ≤ t) (r1 : t ≤ 9223372036854775807) (h : t < 0 ∨ 200 < t) :
    Calls Tryz.prog 60 #[.pointer (some ⟨Q, 0, none⟩), .int .i64 t] w fun e w' => (∃ l, e = .returned (chn l (a 0))) ∧ Below w.heap.size w w' := by
  have g0 := hg.s.c 0 (by decide)
  have HG := hide hg
  have hsz := txt_size t r0 r1
  have HI := hide (fun W hW => itoa_any t W a0 a1 r0 r1 hW)
  generalize txt t = tx at *
  generalize a 0 = b at *
  have hadd : ∀ W, (Op.stringOp .add tx { data := #[32, 116, 105, 99, 107, 115] }).run Tryz.prog W = .ok (.string (tx ++ { data := #[32, 116, 105, 99, 107, 115] })) W := fun W => run_string_add_sum W _ _ (by have : (ByteArray.mk #[32, 116, 105, 99, 107, 115]).size = 6 := rfl; omega)
  have HY := hide (fun W => in_some { data := #[82, 117, 110] } 134 (.agg #[.string (tx ++ { data := #[32, 116, 105, 99, 107, 115] }), .iface 242 (.pointer (some b))]) W)
  clear hg
  by_cases hs : t < 0
  · clear h
    go_enter Tryz.func60, Tryz.ntmps60
    go_wp2_with fail
    go_region_held3 (fun w' => w'.cell? ⟨0, 0, none⟩ = some (.iface 242 (.pointer (some b))) ∧ GlA w' a a0 a1 ∧ Below w.heap.size w w')
      (first | exact ⟨g0, (unhide HG).drew, (Below.refl _ _).drew⟩ | exact heldA_below (by assumption) (by assumption) | assumption)
      (first
        | (go_at_call 66; refine (unhide HI _ (heldA_gl (by assumption))).mono ?_; rintro e w' ⟨rfl, hb'⟩)
        | (go_at_call 46; refine (in_some _ _ _ _).mono ?_; rintro e w' ⟨rfl, rfl⟩)
        | (go_at_call 46; refine (unhide HY _).mono ?_; rintro e w' ⟨rfl, rfl⟩))
    rename_i hH
    have HH := hide hH.2.2
    clear hH
    generalize hE : plc { data := #[82, 117, 110] } (Value.iface 134 (Value.agg #[Value.string (tx ++ { data := #[32, 116, 105, 99, 107, 115] }), Value.iface 242 (Value.pointer (some b))])) = E at *
    have HE := hide hE
    clear hE hadd
    go_wp2_with fail
    go_ret
    exact ⟨⟨[{ data := #[82, 117, 110] }, tx ++ { data := #[32, 116, 105, 99, 107, 115] }], ret_val (by rw [← unhide HE]; rfl)⟩, unhide HH⟩
  · have hs2 : 200 < t := by omega
    have hs3 : decide (t < 0) = false := by simpa using hs
    clear h
    go_enter Tryz.func60, Tryz.ntmps60
    go_wp2_with fail
    go_region_held3 (fun w' => w'.cell? ⟨0, 0, none⟩ = some (.iface 242 (.pointer (some b))) ∧ GlA w' a a0 a1 ∧ Below w.heap.size w w')
      (first | exact ⟨g0, (unhide HG).drew, (Below.refl _ _).drew⟩ | exact heldA_below (by assumption) (by assumption) | assumption)
      (first
        | (go_at_call 66; refine (unhide HI _ (heldA_gl (by assumption))).mono ?_; rintro e w' ⟨rfl, hb'⟩)
        | (go_at_call 46; refine (in_some _ _ _ _).mono ?_; rintro e w' ⟨rfl, rfl⟩)
        | (go_at_call 46; refine (unhide HY _).mono ?_; rintro e w' ⟨rfl, rfl⟩))
    rename_i hH
    have HH := hide hH.2.2
    clear hH
    generalize hE : plc { data := #[82, 117, 110] } (Value.iface 134 (Value.agg #[Value.string (tx ++ { data := #[32, 116, 105, 99, 107, 115] }), Value.iface 242 (Value.pointer (some b))])) = E at *
    have HE := hide hE
    clear hE hadd
    go_wp2_with fail
    go_ret
    exact ⟨⟨[{ data := #[82, 117, 110] }, tx ++ { data := #[32, 116, 105, 99, 107, 115] }], ret_val (by rw [← unhide HE]; rfl)⟩, unhide HH⟩
end Go.Proofs.YtcnmajndackohaaGreatDoor
/-
  What the program's Send does where it takes no packet.
-/
namespace Go.Proofs.YtcnmajndackohaaGreatDoor
open Go.RowKit
attribute [local go_sem ↓] Go.wp_at_zero Go.wp_at_succ

/-- No flow of this number lives. -/
def NoLive (s : PS) (k : Int) : Prop := mAt (adrs s.fs) k = none ∨ ∃ (j : Nat) (f : FS), k = (j : Int) ∧ s.fs j = some f ∧ f.torn = true
theorem plive_bad (w : World) (P : Nat) (s : PS) (h : PM w P s) (k : Int) (hk0 : -9223372036854775808 ≤ k) (hk1 : k ≤ 9223372036854775807) (hf : NoLive s k) (a : Nat → Addr) (hs : Snt w a) :
    Calls Tryz.prog 63 #[.pointer (some ⟨s.Q, 0, none⟩), .int .i64 k] w fun e w' => e = .returned (.tuple #[.pointer none, .iface 242 (.pointer (some (a 3)))]) ∧ Below w.heap.size w w' := by
  have hE := hs.c 3 (by decide)
  rcases hf with hf | ⟨j, f, rfl, hf, ht⟩
  · exact plive_none w P s h k hk0 hk1 hf _ _ hE
  · exact plive_torn w P s h j hk1 f hf ht _ _ hE
set_option maxRecDepth 100000 in
set_option maxHeartbeats 4000000 in
theorem psend_none (w : World) (P : Nat) (s : PS) (h : PM w P s) (k size : Int) (hk0 : -9223372036854775808 ≤ k) (hk1 : k ≤ 9223372036854775807) (hf : NoLive s k) (a : Nat → Addr) (a0 a1 : Addr) (hg : GlA w a a0 a1) :
    Calls Tryz.prog 44 #[.pointer (some ⟨s.Q, 0, none⟩), .int .i64 k, .int .i64 size] w fun e w' => (∃ l, e = .returned (chn l (a 3))) ∧ Below w.heap.size w w' := by
  have HL := hide (plive_bad w P s h k hk0 hk1 hf a hg.s)
  have HA := hide (fun W (hW : Below w.heap.size w W) => atflow_any { data := #[83, 101, 110, 100] } k [] (a 3) W a a0 a1 hk0 hk1 (hg.below hW))
  rw [show chn [] (a 3) = .iface 242 (.pointer (some (a 3))) from rfl] at HA
  clear h hf hg
  go_enter Tryz.func44, Tryz.ntmps44
  go_wp2_with fail
  refine (unhide HL).mono ?_
  rintro e w1 ⟨rfl, hb1⟩
  have HB1 := hide hb1
  have HA1 := hide (unhide HA w1 hb1)
  clear hb1 HL HA
  go_wp2_with fail
  refine (unhide HA1).mono ?_
  rintro e w2 ⟨⟨l', rfl⟩, hb2⟩
  have HB2 := hide (bel_then (unhide HB1) hb2)
  obtain ⟨E, HE⟩ : ∃ E, Hid (chn l' (a 3) = E) := ⟨_, hide rfl⟩
  rw [unhide HE]
  clear hb2 HA1
  go_wp2_with fail
  go_ret
  exact ⟨⟨l', ret_val (unhide HE).symm⟩, unhide HB2⟩
theorem heldC_below {w0 W w1 : World} {a : Nat → Addr} {a0 a1 : Addr} {b o1 o2 : Nat} {E F : Value} (hb : Below W.heap.size W w1)
    (h : W.cell? ⟨b, o1, none⟩ = some E ∧ W.cell? ⟨b, o2, none⟩ = some F ∧ GlA W a a0 a1 ∧ Below w0.heap.size w0 W) : w1.cell? ⟨b, o1, none⟩ = some E ∧ w1.cell? ⟨b, o2, none⟩ = some F ∧ GlA w1 a a0 a1 ∧ Below w0.heap.size w0 w1 :=
  ⟨(hb.cell (World.block_lt_of_cell? _ _ h.1)).trans h.1, (hb.cell (World.block_lt_of_cell? _ _ h.2.1)).trans h.2.1, h.2.2.1.below hb, bel_then h.2.2.2 hb⟩
theorem heldC_gl {w0 W : World} {a : Nat → Addr} {a0 a1 : Addr} {b o1 o2 : Nat} {E F : Value} (h : W.cell? ⟨b, o1, none⟩ = some E ∧ W.cell? ⟨b, o2, none⟩ = some F ∧ GlA W a a0 a1 ∧ Below w0.heap.size w0 W) : GlA W a a0 a1 := h.2.2.1
set_option maxRecDepth 100000 in
set_option maxHeartbeats 4000000 in
/-- The packet is not taken. -/
theorem psend_bad (w : World) (P : Nat) (s : PS) (h : PM w P s) (k : Nat) (size : Int) (hk1 : (k : Int) ≤ 9223372036854775807) (f : FS) (hf : s.fs k = some f) (ht : f.torn = false) (a : Nat → Addr) (a0 a1 b : Addr) (hg : GlA w a a0 a1)
    (hacc : ∀ W, GlA W a a0 a1 → Calls Tryz.prog 59 #[.int .i64 size, .int .i64 f.f.s, .int .i64 f.wa] W fun e w' => (∃ l, e = .returned (chn l b)) ∧ Below W.heap.size W w') :
    Calls Tryz.prog 44 #[.pointer (some ⟨s.Q, 0, none⟩), .int .i64 (k : Int), .int .i64 size] w fun e w' => (∃ l, e = .returned (chn l b)) ∧ Below w.heap.size w w' := by
  have HL := hide (plive_some w P s h k hk1 f hf ht)
  have HA := hide (fun l W (hW : Below w.heap.size w W) => atflow_any { data := #[83, 101, 110, 100] } (k : Int) l b W a a0 a1 (by omega) hk1 (hg.below hW))
  have HAc := hide hacc
  have hfm := h.fl k f hf
  have c0 := hfm.shape.1
  have c13 := hfm.c13
  have HG := hide hg
  clear h hf ht hg hacc hfm
  go_enter Tryz.func44, Tryz.ntmps44
  go_wp2_with fail
  refine (unhide HL).mono ?_
  rintro e w1 ⟨rfl, rfl⟩
  clear HL
  go_wp2_with fail
  go_region_held3 (fun w' => w'.cell? ⟨f.a, 0, none⟩ = some (.int .i64 f.f.s) ∧ w'.cell? ⟨f.a, 13, none⟩ = some (.int .i64 f.wa) ∧ GlA w' a a0 a1 ∧ Below w1.heap.size w1 w')
    (first | exact ⟨c0, c13, (unhide HG).drew, (Below.refl _ _).drew⟩ | assumption)
    (first | (go_at_call 59; refine (unhide HAc _ (heldC_gl (by assumption))).mono ?_; rintro e w' ⟨⟨l', rfl⟩, hb'⟩; obtain ⟨T, y, hy⟩ := chn_form l' b; have HY := hide hy; rw [hy]; clear hy; have hS' := heldC_below hb' (by assumption)))
  rename_i hH
  have HB1 := hide hH.2.2.2
  have HA1 := hide (unhide HA l' _ hH.2.2.2)
  rw [unhide HY] at HA1
  clear hH hb' hS' HA HAc
  go_wp2_with fail
  refine (unhide HA1).mono ?_
  rintro e w2 ⟨⟨l2, rfl⟩, hb2⟩
  have HB2 := hide (bel_then (unhide HB1) hb2)
  obtain ⟨E, HE⟩ : ∃ E, Hid (chn l2 b = E) := ⟨_, hide rfl⟩
  rw [unhide HE]
  clear hb2 HA1
  go_wp2_with fail
  go_ret
  exact ⟨⟨l2, ret_val (unhide HE).symm⟩, unhide HB2⟩
end Go.Proofs.YtcnmajndackohaaGreatDoor
/-
  What the program's Send does where it takes a packet: the parts.
-/
namespace Go.Proofs.YtcnmajndackohaaGreatDoor
open Go.RowKit

theorem pass_same (g : Gt) (now size : Int) : (g.pass now size).2.peak.most = g.peak.most ∧ (g.pass now size).2.peak.rate = g.peak.rate ∧ (g.pass now size).2.burst.most = g.burst.most ∧ (g.pass now size).2.burst.rate = g.burst.rate := by
  unfold Gt.pass
  split
  · exact ⟨rfl, rfl, rfl, rfl⟩
  · dsimp only
    split <;> exact ⟨rfl, rfl, rfl, rfl⟩
theorem gput_cs (f : FS) (g' : Gt) (h : g'.peak.most = f.g.peak.most ∧ g'.peak.rate = f.g.peak.rate ∧ g'.burst.most = f.g.burst.most ∧ g'.burst.rate = f.g.burst.rate) : gput f.cs 5 g' = { f with g := g' }.cs := by
  obtain ⟨h1, h2, h3, h4⟩ := h
  unfold FS.cs
  rw [h1, h2, h3, h4]
  rfl
theorem gts_cs (f : FS) : Gts f.cs 5 f.g := ⟨⟨rfl, rfl, rfl⟩, ⟨rfl, rfl, rfl⟩, rfl⟩
/-- What is asked of a gate. -/
def Gte (g : Gt) : Prop := g.last ≠ never → g.ok ∧ g.last ≤ 50000000000000000
theorem pass_any (w : World) (P : Nat) (s : PS) (h : PM w P s) (k : Nat) (f : FS) (hf : s.fs k = some f) (now size : Int) (hg : Gte f.g) (n0 : 0 ≤ now) (n1 : now ≤ 50000000000000000) (s0 : 1 ≤ size) (s1 : size ≤ 8) :
    Calls Tryz.prog 65 #[.pointer (some ⟨f.a, 5, none⟩), .int .i64 now, .int .i64 size] w fun e w' => e = .returned (.int .i64 (f.g.pass now size).1) ∧ PTo w P s w' { s with fs := upd s.fs k { f with g := (f.g.pass now size).2 } } ∧ Only (fun i => i = f.a) w w' := by
  have hfm := h.fl k f hf
  have base : Calls Tryz.prog 65 #[.pointer (some ⟨f.a, 5, none⟩), .int .i64 now, .int .i64 size] w fun e w' => e = .returned (.int .i64 (f.g.pass now size).1) ∧ Is w' f.a 130 (gput f.cs 5 (f.g.pass now size).2) ∧ Only (fun x => x = f.a) w w' := by
    by_cases hd : f.g.last = never
    · exact pass_dead f.a 5 f.g now size w _ _ hfm.blk (gts_cs f) hd
    · obtain ⟨hok, hl⟩ := hg hd
      exact pass_live f.a 5 f.g now size w _ _ hfm.blk (gts_cs f) hd hok n0 n1 hl s0 s1
  refine base.mono ?_
  rintro e w' ⟨rfl, hI, hO⟩
  rw [gput_cs f _ (pass_same f.g now size)] at hI
  have hq : ∀ i, i = f.a → s.o i = 7 + 2 * k := fun i e => by rw [e]; exact hfm.ob
  refine ⟨rfl, ⟨h.flowTo hf (hO.mono fun i _ e => .inl (hq i e)) (fun _ _ => rfl) (fun i hi => h.free i (Nat.le_trans hO.size hi)) ⟨hI, hfm.ob, ?_⟩ rfl, hO.mono fun i _ e => by rw [hq i e]; omega, fun _ _ => rfl, rfl⟩, hO⟩
  exact hfm.hl.keep hO (fun i e => by rw [hq i e]; omega) (fun _ _ => rfl)
theorem FS.set12 (f : FS) (v : Int) : f.cs.setIfInBounds 12 (.int .i64 v) = { f with br := v }.cs := rfl
theorem PM.setBr {w : World} {P : Nat} {s : PS} (h : PM w P s) {k : Nat} {f : FS} (hf : s.fs k = some f) (v : Int) : PTo w P s (w.setCell ⟨f.a, 12, none⟩ (.int .i64 v)) { s with fs := upd s.fs k { f with br := v } } := by
  have hfm := h.fl k f hf
  have hO : Only (fun i => i = f.a) w (w.setCell ⟨f.a, 12, none⟩ (.int .i64 v)) := only_set w f.a 12 _
  have hq : ∀ i, i = f.a → s.o i = 7 + 2 * k := fun i e => by rw [e]; exact hfm.ob
  have hI := hfm.blk.set 12 (.int .i64 v)
  rw [FS.set12] at hI
  refine ⟨h.flowTo hf (hO.mono fun i _ e => .inl (hq i e)) (fun _ _ => rfl) (fun i hi => h.free i (Nat.le_trans hO.size hi)) ⟨hI, hfm.ob, ?_⟩ rfl, hO.mono fun i _ e => by rw [hq i e]; omega, fun _ _ => rfl, rfl⟩
  exact hfm.hl.keep hO (fun i e => by rw [hq i e]; omega) (fun _ _ => rfl)
theorem upd_upd (fs : Nat → Option FS) (k : Nat) (f g : FS) : upd (upd fs k f) k g = upd fs k g := by
  funext j
  by_cases e : j = k
  · subst e; rw [upd_same, upd_same]
  · rw [upd_far _ _ e, upd_far _ _ e, upd_far _ _ e]
/-- One more is held back. -/
theorem PM.heldOn {w w1 w2 : World} {P : Nat} {s : PS} {k : Nat} {f : FS} {v' : Value} {p : Pk} (h : PM w P s) (hf : s.fs k = some f) (hb : Below w.heap.size w w1) (hown : World.offRow w2 118 4 v' (f.L.length + 1) (hcells f.L ++ hcs p)) (hgrow : w1.grownBy w2 f.vh.ownBlock) (hat : ∀ g, v'.ownBlock = some g → f.vh.ownBlock = some g ∨ w.heap.size ≤ g) :
    Is w2 f.a 130 f.cs ∧ Only (fun i => s.o i = 8 + 2 * k) w w2 ∧ PTo w P s (w2.setCell ⟨f.a, 14, none⟩ v') { s with fs := upd s.fs k { f with vh := v', L := f.L ++ [p] }, o := s.o.give w.heap.size w2.heap.size (8 + 2 * k) } := by
  have hfm := h.fl k f hf
  have hO1 : Only (fun i => s.o i = 8 + 2 * k) w w2 := (Only.of_below hb).grown hgrow (fun j e _ => hfm.hl.2 j e)
  have hI : Is w2 f.a 130 f.cs := hfm.blk.only hO1 (fun e => by have e' : s.o f.a = 8 + 2 * k := e; rw [hfm.ob] at e'; omega)
  have hO : Only (fun i => s.o i = 7 + 2 * k ∨ s.o i = 8 + 2 * k) w (w2.setCell ⟨f.a, 14, none⟩ v') := (hO1.mono fun i _ e => .inr e).setCell (.inl (.inl hfm.ob))
  have hg : ∀ i, i < w.heap.size → (s.o.give w.heap.size w2.heap.size (8 + 2 * k)) i = s.o i := fun i hi => give_old hi
  have hsz : (w2.setCell ⟨f.a, 14, none⟩ v').heap.size = w2.heap.size := by simp
  have hva : ∀ g, v'.ownBlock = some g → g ≠ f.a := fun g hg' e => by
    rcases hat g hg' with c | c
    · have h1 := hfm.hl.2 g c
      have h2 := hfm.ob
      rw [e] at h1
      omega
    · have := hfm.blk.lt; omega
  have hI2 := hI.set 14 v'
  rw [FS.set14 f v' (f.L ++ [p])] at hI2
  refine ⟨hI, hO1, h.flowTo hf hO hg ?_ ⟨hI2, (hg _ hfm.blk.lt).trans hfm.ob, ?_, fun g hg' => ?_⟩ rfl, hO.mono fun i _ e => by omega, hg, rfl⟩
  · have := give_free (c := 8 + 2 * k) h.free hO1.size
    exact fun i hi => this i (by omega)
  · show World.offRow _ _ 4 v' (f.L ++ [p]).length (hcells (f.L ++ [p]))
    rw [List.length_append, hcells_append]
    refine offRow_only (S := fun i => i = f.a) ?_ (only_set _ _ _ _) (fun g hg' e => hva g hg' e)
    exact hown
  · rcases hat g hg' with c | c
    · exact (hg g (offRow_lt hfm.hl.1 g c)).trans (hfm.hl.2 g c)
    · exact give_new c (offRow_lt hown g hg')
theorem infoPkt : (Tryz.prog.info? 118).map (fun i => (i.zero, i.size, i.bytes)) = some (some (.agg #[.int .i64 0, .int .i64 0, .int .i64 0, .int .i64 0]), 4, 32) := by kernel_rfl
end Go.Proofs.YtcnmajndackohaaGreatDoor
