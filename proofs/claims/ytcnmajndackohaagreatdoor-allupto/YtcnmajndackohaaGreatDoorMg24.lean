import Derived.Test.YtcnmajndackohaaGreatDoorMg22
import Derived.Test.YtcnmajndackohaaGreatDoorMg23
import Derived.Test.YtcnmajndackohaaGreatDoorMg16
/-
  What the program's accept and atFlow tell; what goes wrong in Run.
-/
namespace Go.Proofs.YtcnmajndackohaaGreatDoor
open Go.RowKit
attribute [local go_sem ↓] Go.wp_at_zero Go.wp_at_succ
/-- What the package's variables hold, with the sentinels' addresses. -/
structure GlA (w : World) (a : Nat → Addr) (a0 a1 : Addr) : Prop where
  g : GlT w a0 a1
  s : Snt w a
section
variable {w w' : World} {a : Nat → Addr} {a0 a1 : Addr}
theorem GlA.below (h : GlA w a a0 a1) (hb : Below w.heap.size w w') : GlA w' a a0 a1 := ⟨h.g.below hb, h.s.below hb⟩
theorem GlA.drew (h : GlA w a a0 a1) : GlA w.drew a a0 a1 := ⟨h.g.drew, h.s.drew⟩
end
set_option maxRecDepth 100000 in
set_option maxHeartbeats 4000000 in
theorem atflow_any (q : ByteArray) (n : Int) (l : List ByteArray) (b : Addr) (w : World) (a : Nat → Addr) (a0 a1 : Addr) (h0 : -9223372036854775808 ≤ n) (h1 : n ≤ 9223372036854775807) (hg : GlA w a a0 a1) :
    Calls Tryz.prog 64 #[.string q, .int .i64 n, chn l b] w fun e w' => (∃ l', e = .returned (chn l' b)) ∧ Below w.heap.size w w' := by
  have hsz := txt_size n h0 h1
  have HI := hide (itoa_any n w a0 a1 h0 h1 hg.g)
  generalize txt n = tx at *
  have hadd : ∀ W, (Op.stringOp .add { data := #[102, 108, 111, 119, 32] } tx).run Tryz.prog W = .ok (.string ({ data := #[102, 108, 111, 119, 32] } ++ tx)) W := fun W => run_string_add_sum W _ _ (by have : (ByteArray.mk #[102, 108, 111, 119, 32]).size = 5 := rfl; omega)
  have HX := hide (in_chn ({ data := #[102, 108, 111, 119, 32] } ++ tx) l b)
  have HY := hide (in_chn q (({ data := #[102, 108, 111, 119, 32] } ++ tx) :: l) b)
  obtain ⟨T, x, hx⟩ := chn_form l b
  obtain ⟨T2, x2, hx2⟩ := chn_form (({ data := #[102, 108, 111, 119, 32] } ++ tx) :: l) b
  obtain ⟨E, HE⟩ : ∃ E, Hid (chn (q :: ({ data := #[102, 108, 111, 119, 32] } ++ tx) :: l) b = E) := ⟨_, hide rfl⟩
  rw [unhide HE, hx2] at HY
  rw [hx2, hx] at HX
  rw [hx]
  clear hx hx2 hg
  go_enter Tryz.func64, Tryz.ntmps64
  go_wp2_with fail
  refine (unhide HI).mono ?_
  rintro e w1 ⟨rfl, hb1⟩
  have HB1 := hide hb1
  clear hb1
  go_wp2_with fail
  refine (unhide HX _).mono ?_
  rintro e w2 ⟨rfl, rfl⟩
  clear HX hadd
  go_wp2_with fail
  refine (unhide HY _).mono ?_
  rintro e w3 ⟨rfl, rfl⟩
  clear HY
  go_wp2_with fail
  go_ret
  exact ⟨⟨_, ret_val (unhide HE).symm⟩, unhide HB1⟩
theorem heldA_below {w0 W w1 : World} {g : Nat} {a : Nat → Addr} {a0 a1 : Addr} {E : Value} (hb : Below W.heap.size W w1)
    (h : W.cell? ⟨g, 0, none⟩ = some E ∧ GlA W a a0 a1 ∧ Below w0.heap.size w0 W) :
    w1.cell? ⟨g, 0, none⟩ = some E ∧ GlA w1 a a0 a1 ∧ Below w0.heap.size w0 w1 :=
  ⟨(hb.cell (World.block_lt_of_cell? _ _ h.1)).trans h.1, h.2.1.below hb, bel_then h.2.2 hb⟩
theorem heldA_gl {w0 W : World} {g : Nat} {a : Nat → Addr} {a0 a1 : Addr} {E : Value} (h : W.cell? ⟨g, 0, none⟩ = some E ∧ GlA W a a0 a1 ∧ Below w0.heap.size w0 W) : GlT W a0 a1 := h.2.1.g
set_option maxRecDepth 100000 in
set_option maxHeartbeats 4000000 in
theorem accept_ok (size most waiting : Int) (w : World) (h1 : 1 ≤ size) (h2 : size ≤ most) (h3 : waiting < 40) :
    Calls Tryz.prog 59 #[.int .i64 size, .int .i64 most, .int .i64 waiting] w fun e w' => e = .returned .nilIface ∧ w' = w := by
  go_enter Tryz.func59, Tryz.ntmps59
  go_wp2
  go_ret
  exact ⟨rfl, rfl⟩
set_option maxRecDepth 100000 in
set_option maxHeartbeats 4000000 in
theorem accept_size (size most waiting : Int) (w : World) (a : Nat → Addr) (a0 a1 : Addr) (hg : GlA w a a0 a1) (r0 : -9223372036854775808 ≤ size) (r1 : size ≤ 9223372036854775807) (h : size < 1 ∨ most < size) :
    Calls Tryz.prog 59 #[.int .i64 size, .int .i64 most, .int .i64 waiting] w fun e w' => (∃ l, e = .returned (chn l (a 4))) ∧ Below w.heap.size w w' := by
  have g0 := hg.s.c 4 (by decide)
  have HG := hide hg
  have hsz := txt_size size r0 r1
  have HI := hide (fun W hW => itoa_any size W a0 a1 r0 r1 hW)
  generalize txt size = tx at *
  generalize a 4 = b at *
  have hadd : ∀ W, (Op.stringOp .add { data := #[115, 105, 122, 101, 32] } tx).run Tryz.prog W = .ok (.string ({ data := #[115, 105, 122, 101, 32] } ++ tx)) W := fun W => run_string_add_sum W _ _ (by have : (ByteArray.mk #[115, 105, 122, 101, 32]).size = 5 := rfl; omega)
  clear hg
  by_cases hs : size < 1
  · clear h
    go_enter Tryz.func59, Tryz.ntmps59
    go_wp2_with fail
    go_region_held3 (fun w' => w'.cell? ⟨4, 0, none⟩ = some (.iface 242 (.pointer (some b))) ∧ GlA w' a a0 a1 ∧ Below w.heap.size w w')
      (first | exact ⟨g0, (unhide HG).drew, (Below.refl _ _).drew⟩ | exact heldA_below (by assumption) (by assumption) | assumption)
      (first
        | (go_at_call 66; refine (unhide HI _ (heldA_gl (by assumption))).mono ?_; rintro e w' ⟨rfl, hb'⟩)
        | (go_at_call 46; refine (in_some _ _ _ _).mono ?_; rintro e w' ⟨rfl, rfl⟩))
    rename_i hH
    have HH := hide hH.2.2
    clear hH
    generalize hE : plc ({ data := #[115, 105, 122, 101, 32] } ++ tx) (Value.iface 242 (Value.pointer (some b))) = E at *
    have HE := hide hE
    clear hE hadd
    go_wp2_with fail
    go_ret
    exact ⟨⟨[{ data := #[115, 105, 122, 101, 32] } ++ tx], ret_val (by rw [← unhide HE]; rfl)⟩, unhide HH⟩
  · have hs2 : most < size := by omega
    have hs3 : decide (size < 1) = false := by simpa using hs
    clear h
    go_enter Tryz.func59, Tryz.ntmps59
    go_wp2_with fail
    go_region_held3 (fun w' => w'.cell? ⟨4, 0, none⟩ = some (.iface 242 (.pointer (some b))) ∧ GlA w' a a0 a1 ∧ Below w.heap.size w w')
      (first | exact ⟨g0, (unhide HG).drew, (Below.refl _ _).drew⟩ | exact heldA_below (by assumption) (by assumption) | assumption)
      (first
        | (go_at_call 66; refine (unhide HI _ (heldA_gl (by assumption))).mono ?_; rintro e w' ⟨rfl, hb'⟩)
        | (go_at_call 46; refine (in_some _ _ _ _).mono ?_; rintro e w' ⟨rfl, rfl⟩))
    rename_i hH
    have HH := hide hH.2.2
    clear hH
    generalize hE : plc ({ data := #[115, 105, 122, 101, 32] } ++ tx) (Value.iface 242 (Value.pointer (some b))) = E at *
    have HE := hide hE
    clear hE hadd
    go_wp2_with fail
    go_ret
    exact ⟨⟨[{ data := #[115, 105, 122, 101, 32] } ++ tx], ret_val (by rw [← unhide HE]; rfl)⟩, unhide HH⟩
set_option maxRecDepth 100000 in
set_option maxHeartbeats 4000000 in
theorem accept_quota (size most waiting : Int) (w : World) (a : Nat → Addr) (a0 a1 : Addr) (hg : GlA w a a0 a1) (h1 : 1 ≤ size) (h2 : size ≤ most) (h3 : 40 ≤ waiting) (r1 : waiting ≤ 9223372036854775807) :
    Calls Tryz.prog 59 #[.int .i64 size, .int .i64 most, .int .i64 waiting] w fun e w' => (∃ l, e = .returned (chn l (a 5))) ∧ Below w.heap.size w w' := by
  have g0 := hg.s.c 5 (by decide)
  have HG := hide hg
  have hsz := txt_size waiting (by omega) r1
  have HI := hide (fun W hW => itoa_any waiting W a0 a1 (by omega) r1 hW)
  generalize txt waiting = tx at *
  generalize a 5 = b at *
  have hadd : ∀ W, (Op.stringOp .add tx { data := #[32, 119, 97, 105, 116] }).run Tryz.prog W = .ok (.string (tx ++ { data := #[32, 119, 97, 105, 116] })) W := fun W => run_string_add_sum W _ _ (by have : (ByteArray.mk #[32, 119, 97, 105, 116]).size = 5 := rfl; omega)
  clear hg
  · skip
    go_enter Tryz.func59, Tryz.ntmps59
    go_wp2_with fail
    go_region_held3 (fun w' => w'.cell? ⟨5, 0, none⟩ = some (.iface 242 (.pointer (some b))) ∧ GlA w' a a0 a1 ∧ Below w.heap.size w w')
      (first | exact ⟨g0, (unhide HG).drew, (Below.refl _ _).drew⟩ | exact heldA_below (by assumption) (by assumption) | assumption)
      (first
        | (go_at_call 66; refine (unhide HI _ (heldA_gl (by assumption))).mono ?_; rintro e w' ⟨rfl, hb'⟩)
        | (go_at_call 46; refine (in_some _ _ _ _).mono ?_; rintro e w' ⟨rfl, rfl⟩))
    rename_i hH
    have HH := hide hH.2.2
    clear hH
    generalize hE : plc (tx ++ { data := #[32, 119, 97, 105, 116] }) (Value.iface 242 (Value.pointer (some b))) = E at *
    have HE := hide hE
    clear hE hadd
    go_wp2_with fail
    go_ret
    exact ⟨⟨[tx ++ { data := #[32, 119, 97, 105, 116] }], ret_val (by rw [← unhide HE]; rfl)⟩, unhide HH⟩
end Go.Proofs.YtcnmajndackohaaGreatDoor
/-
  What the program's Run does.
-/
namespace Go.Proofs.YtcnmajndackohaaGreatDoor
open Go.RowKit
attribute [local go_sem ↓] Go.wp_at_zero Go.wp_at_succ
/-- How a call ends: the line is x then. -/
def PSto (w : World) (P : Nat) (s : PS) (w' : World) (x : Ln) : Prop := ∃ s' rel, PTo w P s w' s' ∧ Sim x s' rel
theorem Stay.rld {s t : PS} (h : Stay s t) (hh : ∀ k f p tl, t.fs k = some f → f.L = p :: tl → s.now < toTick p.ready) : Rld t := fun k f p tl hf hL => by rw [h.n]; exact hh k f p tl hf hL
/-- The tick, one later. -/
theorem PM.setNow {w : World} {P : Nat} {s : PS} (h : PM w P s) (v : Int) : PTo w P s (w.setCell ⟨s.Q, 0, none⟩ (.int .i64 v)) { s with now := v } :=
  h.setQ 0 _ rfl rfl rfl rfl rfl h.rd h.ord h.ot h.be h.hp
theorem settle_now (s : PS) : s.settle.now = s.now ∧ s.settle.Q = s.Q ∧ s.settle.G = s.G := by unfold PS.settle; split <;> exact ⟨rfl, rfl, rfl⟩
theorem Beg.now {s s' : PS} (h : Beg s s') : s'.now = s.now := by
  rcases h with ⟨_, rfl⟩ | ⟨_, _, p, tl, v, vb, o, _, rfl⟩ | ⟨_, e, H', v, vb, o, k, f, _, _, _, _, rfl⟩ <;> rfl
set_option maxRecDepth 100000 in
set_option maxHeartbeats 4000000 in
theorem prun_ok (w : World) (P : Nat) (x : Ln) (s : PS) (rel : Int → Int) (t : Int) (h : PM w P s) (hs : Sim x s rel) (hb : Lbn x) (hn : x.now ≤ 50000000000) (t0 : 0 ≤ t) (t1 : t ≤ 200) :
    Calls Tryz.prog 60 #[.pointer (some ⟨s.Q, 0, none⟩), .int .i64 t] w fun e w' => e = .returned .nilIface ∧ PSto w P s w' (x.ticks t.toNat) := by
  have HH := hide h
  have HS := hide hs
  have HB := hide hb
  have HN := hide hn
  have HRel := hide (fun (W : World) (y : Ln) (u : PS) (hp : PM W P u) (r : Int → Int) (hy : Sim y u r) (b : Lbn y) => prelease W P u hp (fun v => ∃ r, Sim y v r) ⟨r, hy⟩ (fun a c ha hr => let ⟨r, hr'⟩ := ha; hr'.rel1 (by have := b.now; omega) hr) (fun a ha => let ⟨r, hr'⟩ := ha; hr'.rgo b))
  have HSet := hide (fun (W : World) (y : Ln) (u : PS) (hp : PM W P u) (r : Int → Int) (hy : Sim y u r) (b : Lbn y) => psettle W P u hp (by have := hy.Glen; have := b.pk; omega) (hy.bgo b).k1)
  have HBeg := hide (fun (W : World) (y : Ln) (u : PS) (hp : PM W P u) (r : Int → Int) (hy : Sim y u r) (b : Lbn y) => pbegin W P u hp (hy.bgo b))
  clear h hs hb hn
  go_enter Tryz.func60, Tryz.ntmps60
  go_wp2_with fail
  go_loopw [18] (fun v wr => ∃ (i : Nat) (u : PS) (r : Int → Int), v = .int .i64 (i : Int) ∧ (i : Int) ≤ t ∧ PTo w P s wr u ∧ Sim (x.ticks i) u r) (fun v _ => (t - intOf v).toNat)
  case atStart => exact ⟨0, s, rel, rfl, t0, PTo.refl (unhide HH), unhide HS⟩
  case round =>
    obtain ⟨i, u, r, rfl, hi, hT, hY⟩ := hrel
    have HT := hide hT
    have HY := hide hY
    clear hT hY
    by_cases hlt : (i : Int) < t
    · have hq := (unhide HT).q
      have HBi := hide ((unhide HB).ticks (unhide HN) (i := i) (by omega))
      have HR1 := hide (unhide HRel wr (x.ticks i) u (unhide HT).pm r (unhide HY) (unhide HBi))
      rw [hq] at HR1
      go_wp2_with fail
      refine (unhide HR1).mono ?_
      rintro e w1 ⟨rfl, u1, ⟨r1, hY1⟩, hT1, hSt1, hD1⟩
      have HT1 := hide ((unhide HT).trans hT1)
      have HY1 := hide hY1
      have HRld := hide (hSt1.rld hD1)
      have HS1 := hide (unhide HSet w1 (x.ticks i) u1 hT1.pm r1 hY1 (unhide HBi))
      have hq1 := (unhide HT1).q
      rw [hq1] at HS1
      clear hY1 hT1 hSt1 hD1 HR1
      go_wp2_with fail
      refine (unhide HS1).mono ?_
      rintro e w2 ⟨rfl, hT2⟩
      have HT2 := hide ((unhide HT1).trans hT2)
      have hse := (unhide HY1).settle (unhide HRld)
      have HB2 := hide (unhide HBeg w2 (x.ticks i).away u1.settle hT2.pm r1 hse.1 (away_bnd (unhide HBi)))
      have hq2 := (unhide HT2).q
      rw [hq2] at HB2
      clear hT2 hse HS1
      go_wp2_with fail
      refine (unhide HB2).mono ?_
      rintro e w3 ⟨rfl, u3, hBeg, hT3⟩
      have HT3 := hide ((unhide HT2).trans hT3)
      have hY3 := (unhide HY1).tick (unhide HRld) hBeg
      rw [← ticks_succ] at hY3
      have hn3 : u3.now = u1.now := hBeg.now.trans (settle_now u1).1
      have c0 := (unhide HT3).pm.c0
      have z0 := (unhide HT3).pm.inn.frozen 0
      have hq3 := (unhide HT3).q
      rw [hq3] at c0 z0
      rw [hn3] at c0
      have HEnd := hide ((unhide HT3).trans ((unhide HT3).pm.setNow (u1.now + 1)))
      have HY3 := hide hY3
      have HQ3 := hide hq3
      have hb1 := (unhide HBi).now
      have hb0 := (unhide HY1).inv.n0
      have hnow := (unhide HY1).now
      rw [← hnow] at hb1 hb0
      have HNow := hide hnow
      clear hnow hBeg hT3 hY3 hn3 HB2
      go_wp2_with fail
      go_roundw
      case rel => exact ⟨i + 1, _, r1, by go_num, by omega, by rw [← unhide HQ3]; exact unhide HEnd, unhide HY3⟩
      case measure => simp [intOf]; omega
    · have hti : t.toNat = i := by omega
      go_wp2_with fail
      go_ret
      exact ⟨rfl, u, r, unhide HT, unhide HY⟩
set_option maxRecDepth 100000 in
set_option maxHeartbeats 4000000 in
theorem prun_bad (w : World) (Q : Nat) (t : Int) (a : Nat → Addr) (a0 a1 : Addr) (hg : GlA w a a0 a1) (r0 : -9223372036854775808 ≤ t) (r1 : t ≤ 9223372036854775807) (h : t < 0 ∨ 200 < t) :
    Calls Tryz.prog 60 #[.pointer (some ⟨Q, 0, none⟩), .int .i64 t] w fun e w' => (∃ l, e = .returned (chn l (a 0))) ∧ Below w.heap.size w w' := by
  have g0 := hg.s.c 0 (by decide)
  have HG := hide hg
  have hsz := txt_size t r0 r1
  have HI := hide (fun W hW => itoa_any t W a0 a1 r0 r1 hW)
  generalize txt t = tx at *
  generalize a 0 = b at *
  have hadd : ∀ W, (Op.stringOp .add tx { data := #[32, 116, 105, 99, 107, 115] }).run Tryz.prog W = .ok (.string (tx ++ { data := #[32, 116, 105, 99, 107, 115] })) W := fun W => run_string_add_sum W _ _ (by have : (ByteArray.mk #[32, 116, 105, 99, 107, 115]).size = 6 := rfl; omega)
  have HY := hide (fun W => in_some { data := #[82, 117, 110] } 134 (.agg #[.string (tx ++ { data := #[32, 116, 105, 99, 107, 115] }), .iface 242 (.pointer (some b))]) W)
  clear hg
  by_cases hs : t < 0
  · clear h
    go_enter Tryz.func60, Tryz.ntmps60
    go_wp2_with fail
    go_region_held3 (fun w' => w'.cell? ⟨0, 0, none⟩ = some (.iface 242 (.pointer (some b))) ∧ GlA w' a a0 a1 ∧ Below w.heap.size w w')
      (first | exact ⟨g0, (unhide HG).drew, (Below.refl _ _).drew⟩ | exact heldA_below (by assumption) (by assumption) | assumption)
      (first
        | (go_at_call 66; refine (unhide HI _ (heldA_gl (by assumption))).mono ?_; rintro e w' ⟨rfl, hb'⟩)
        | (go_at_call 46; refine (in_some _ _ _ _).mono ?_; rintro e w' ⟨rfl, rfl⟩)
        | (go_at_call 46; refine (unhide HY _).mono ?_; rintro e w' ⟨rfl, rfl⟩))
    rename_i hH
    have HH := hide hH.2.2
    clear hH
    generalize hE : plc { data := #[82, 117, 110] } (Value.iface 134 (Value.agg #[Value.string (tx ++ { data := #[32, 116, 105, 99, 107, 115] }), Value.iface 242 (Value.pointer (some b))])) = E at *
    have HE := hide hE
    clear hE hadd
    go_wp2_with fail
    go_ret
    exact ⟨⟨[{ data := #[82, 117, 110] }, tx ++ { data := #[32, 116, 105, 99, 107, 115] }], ret_val (by rw [← unhide HE]; rfl)⟩, unhide HH⟩
  · have hs2 : 200 < t := by omega
    have hs3 : decide (t < 0) = false := by simpa using hs
    clear h
    go_enter Tryz.func60, Tryz.ntmps60
    go_wp2_with fail
    go_region_held3 (fun w' => w'.cell? ⟨0, 0, none⟩ = some (.iface 242 (.pointer (some b))) ∧ GlA w' a a0 a1 ∧ Below w.heap.size w w')
      (first | exact ⟨g0, (unhide HG).drew, (Below.refl _ _).drew⟩ | exact heldA_below (by assumption) (by assumption) | assumption)
      (first
        | (go_at_call 66; refine (unhide HI _ (heldA_gl (by assumption))).mono ?_; rintro e w' ⟨rfl, hb'⟩)
        | (go_at_call 46; refine (in_some _ _ _ _).mono ?_; rintro e w' ⟨rfl, rfl⟩)
        | (go_at_call 46; refine (unhide HY _).mono ?_; rintro e w' ⟨rfl, rfl⟩))
    rename_i hH
    have HH := hide hH.2.2
    clear hH
    generalize hE : plc { data := #[82, 117, 110] } (Value.iface 134 (Value.agg #[Value.string (tx ++ { data := #[32, 116, 105, 99, 107, 115] }), Value.iface 242 (Value.pointer (some b))])) = E at *
    have HE := hide hE
    clear hE hadd
    go_wp2_with fail
    go_ret
    exact ⟨⟨[{ data := #[82, 117, 110] }, tx ++ { data := #[32, 116, 105, 99, 107, 115] }], ret_val (by rw [← unhide HE]; rfl)⟩, unhide HH⟩
end Go.Proofs.YtcnmajndackohaaGreatDoor
