import Derived.Test.YtcnmajndackohaaGreatDoorMg22
import Derived.Deep.LoopGhost
import Derived.Test.YtcnmajndackohaaGreatDoorMg08
/-
  What the program's release does: the packets that are ready at this tick go into the queue.
-/
namespace Go.Proofs.YtcnmajndackohaaGreatDoor
open Go.RowKit

theorem FS.set14 (f : FS) (v : Value) (L : List Pk) : f.cs.setIfInBounds 14 v = { f with vh := v, L := L }.cs := rfl
/-- What is held back of a flow, written. -/
theorem PM.setHeld {w : World} {P : Nat} {s : PS} (h : PM w P s) {k : Nat} {f : FS} (hf : s.fs k = some f) {v : Value} {L : List Pk} (hv : Ow w s.o (8 + 2 * k) 118 4 v L.length (hcells L)) : PTo w P s (w.setCell ⟨f.a, 14, none⟩ v) { s with fs := upd s.fs k { f with vh := v, L := L } } := by
  have hfm := h.fl k f hf
  have hO : Only (fun i => i = f.a) w (w.setCell ⟨f.a, 14, none⟩ v) := only_set w f.a 14 _
  have hq : ∀ i, i = f.a → s.o i = 7 + 2 * k := fun i e => by rw [e]; exact hfm.ob
  have hI := hfm.blk.set 14 v
  rw [FS.set14 f v L] at hI
  refine ⟨h.flowTo hf (hO.mono fun i _ e => .inl (hq i e)) (fun _ _ => rfl) (fun i hi => h.free i (Nat.le_trans hO.size hi)) ⟨hI, hfm.ob, ?_⟩ rfl, hO.mono fun i _ e => by rw [hq i e]; omega, fun _ _ => rfl, rfl⟩
  exact hv.keep hO (fun i e => by rw [hq i e]; omega) (fun _ _ => rfl)
/-- The entry of a packet. -/
def enP (p : Pk) (d : Int) : En := ⟨p.flow, p.seq, p.size, toTick p.ready, toTick p.ready + d⟩
/-- One packet goes into the queue. -/
def Rel1 (s s' : PS) : Prop := ∃ (k : Nat) (f : FS) (p : Pk) (tl : List Pk) (v vh : Value) (o : Whose) (H : List En), s.fs k = some f ∧ f.L = p :: tl ∧ toTick p.ready ≤ s.now ∧ HeapN H H.length ∧ H.Perm (enP p f.f.d :: s.H) ∧
  s' = { s with H := H, vr := v, o := o, fs := upd s.fs k { f with vh := vh, L := tl } }
/-- What release asks of a line. -/
structure Rgo (s : PS) : Prop where
  h : s.H.length ≤ 4000000
  n0 : 0 ≤ s.now
  n1 : s.now ≤ 1000000000000
  d : ∀ k f, s.fs k = some f → 0 ≤ f.f.d ∧ f.f.d ≤ 100
  rd : ∀ k f, s.fs k = some f → ∀ p ∈ f.L, 0 ≤ toTick p.ready
  ll : ∀ k f, s.fs k = some f → f.L.length ≤ 1000000000
theorem FM.hlLen {w : World} {o : Whose} {k : Nat} {f : FS} (h : FM w o k f) : ∃ a c, f.vh = .slice a f.L.length c := by
  rcases h.hl.1.2 with ⟨e1, e2⟩ | ⟨g, off, cap, cur, e1, _⟩
  · exact ⟨none, 0, by rw [e1, e2]⟩
  · exact ⟨_, _, e1⟩
/-- What of a line stays. -/
structure Stay (s s' : PS) : Prop where
  m : s'.M = s.M
  n : s'.now = s.now
  a : adrs s'.fs = adrs s.fs
theorem Stay.refl (s : PS) : Stay s s := ⟨rfl, rfl, rfl⟩
theorem Stay.trans {a b c : PS} (h : Stay a b) (k : Stay b c) : Stay a c := ⟨k.m.trans h.m, k.n.trans h.n, k.a.trans h.a⟩
/-- Behind the head's being taken out of what is held back, and lying in a block of its own. -/
theorem PTo.taken {w W : World} {P : Nat} {s t : PS} (h : PTo w P s W t) {k : Nat} {f : FS} (hf : t.fs k = some f) {tl : List Pk} {vt : Value} (hv : World.offRow W 118 4 vt tl.length (hcells tl)) (hg : ∀ g, vt.ownBlock = some g → f.vh.ownBlock = some g) (cs : Array Value) :
    PTo w P s ((W.setCell ⟨f.a, 14, none⟩ vt).alloc (.cells cs 118)) { t with fs := upd t.fs k { f with vh := vt, L := tl } } ∧ Only (fun i => i = f.a) W ((W.setCell ⟨f.a, 14, none⟩ vt).alloc (.cells cs 118)) :=
  ⟨(h.trans (h.pm.setHeld hf ⟨hv, fun g hg' => (h.pm.fl k f hf).hl.2 g (hg g hg')⟩)).below (bel_one _), (only_set _ _ _ _).alloc _⟩
theorem World.offRow.drewN {w : World} {t : TypeId} {size n : Nat} {v : Value} {xs : List Value} (h : World.offRow w t size v n xs) (m : Nat) : World.offRow (w.drewN m) t size v n xs := h
theorem RangeF.drewN {w : World} {M r : Nat} {m : Nat → Option Nat} {left : Nat → Bool} (h : RangeF w M r m left) (n : Nat) : RangeF (w.drewN n) M r m left := (h.of_blocks (w' := w.drewN n) rfl rfl).1
set_option maxRecDepth 100000 in
set_option maxHeartbeats 4000000 in
theorem prelease (w : World) (P : Nat) (s : PS) (h : PM w P s) (J : PS → Prop) (hJ0 : J s) (hJ : ∀ a b, J a → Rel1 a b → J b) (hJg : ∀ a, J a → Rgo a) :
    Calls Tryz.prog 90 #[.pointer (some ⟨s.Q, 0, none⟩)] w fun e w' => e = .returned (.tuple #[]) ∧ ∃ s', J s' ∧ PTo w P s w' s' ∧ Stay s s' ∧ ∀ k f p tl, s'.fs k = some f → f.L = p :: tl → s.now < toTick p.ready := by
  have HH := hide h
  have HJ0 := hide hJ0
  have HJ := hide hJ
  have HJg := hide hJg
  have c1 := h.c1
  have HM1 := hide h.map
  clear h hJ0 hJ hJg
  go_enter Tryz.func90, Tryz.ntmps90
  go_wp2_with (at_range; refine wpList_range_F _ rfl _ rfl rfl (unhide HM1) ?_; intro w0 hrg0 hb0 hs0)
  go_frame
  have HB0 := hide hb0
  have HR0 := hide hrg0
  clear hrg0 hb0 hs0 c1 HM1
  go_loopw [3] (fun _ wr => ∃ (left : Nat → Bool) (t : PS), J t ∧ PTo w P s wr t ∧ Stay s t ∧ t.o w.heap.size = 0 ∧ RangeF wr s.M w.heap.size (adrs s.fs) left ∧ ∀ k f p tl, t.fs k = some f → left k = false → f.L = p :: tl → s.now < toTick p.ready) (fun _ wr => wr.rangeLeft s.M w.heap.size)
  case atStart =>
    refine ⟨_, s, unhide HJ0, (PTo.refl (unhide HH)).below (unhide HB0), Stay.refl s, (unhide HH).free _ (Nat.le_refl _), unhide HR0, fun k f p tl hk hl => ?_⟩
    simp [adrs, hk] at hl
  case round =>
    obtain ⟨left, t, hJt, hT, hS, hr0, hR, hD⟩ := hrel
    have HR00 := hide hr0
    have HJt := hide hJt
    have HT := hide hT
    have HS := hide hS
    have HR := hide hR
    have HD := hide hD
    clear hJt hT hS hR hD hr0
    go_wp2_with (at_next; refine wpList_next_F _ rfl _ rfl rfl (unhide HR) ?_ ?_)
    · intro hl0
      go_wp2_with fail
      go_end0
      exact ⟨rfl, t, unhide HJt, unhide HT, unhide HS, fun k f p tl hk hL => unhide HD k f p tl hk (hl0 k) hL⟩
    · intro k b w1 hlk hmk hR1 hlt hO1 hsz hen
      have hfk : ∃ f, t.fs k = some f ∧ f.a = b := by
        have e := congrFun (unhide HS).a k
        rw [hmk] at e
        unfold adrs at e
        exact Option.map_eq_some_iff.1 e
      obtain ⟨f0, hf0, rfl⟩ := hfk
      have hT1 := (unhide HT).keepNew hO1 (fun i e => by subst e; exact ⟨unhide HR00, Nat.le_refl _⟩)
      have HT1 := hide hT1
      have HR1 := hide hR1
      have HLt := hide hlt
      have HF0 := hide hf0
      have HEn := hide hen
      clear hT1 hR1 hlt hf0 hO1 hsz hmk HT HR HR0
      go_wp2_with fail
      clear hen
      go_loopg [4] (f0.L.length + 1) (fun n _ wr2 => ∃ (t2 : PS) (f2 : FS), J t2 ∧ PTo w P s wr2 t2 ∧ Stay s t2 ∧ t2.o w.heap.size = 0 ∧ RangeF wr2 s.M w.heap.size (adrs s.fs) (fun j => left j && !decide (j = k)) ∧ wr2.rangeLeft s.M w.heap.size = w1.rangeLeft s.M w.heap.size ∧ t2.fs k = some f2 ∧ f2.a = f0.a ∧ f2.L.length < n ∧
        ∀ j f p tl, t2.fs j = some f → ¬ j = k → left j = false → f.L = p :: tl → s.now < toTick p.ready)
      case atStart => exact ⟨t, f0, unhide HJt, unhide HT1, unhide HS, unhide HR00, unhide HR1, rfl, unhide HF0, rfl, by omega, fun j f p tl h1 _ h2 h3 => unhide HD j f p tl h1 h2 h3⟩
      case round =>
        obtain ⟨t2, f2, hJ2, hT2, hS2, hr2, hR2, hL2, hf2, ha2, hn2, hD2⟩ := hrel
        have hfm := hT2.pm.fl k f2 hf2
        have c0 : wr.cell? ⟨s.Q, 0, none⟩ = some (.int .i64 s.now) := by rw [← hT2.q, ← hS2.n]; exact hT2.pm.c0
        obtain ⟨av, cv, hvh⟩ := hfm.hlLen
        have c14 := hfm.c14
        rw [ha2, hvh] at c14
        have HJ2 := hide hJ2
        have HT2 := hide hT2
        have HS2 := hide hS2
        have HR2 := hide hR2
        have HL2 := hide hL2
        have HF2 := hide hf2
        have HA2 := hide ha2
        have HN2 := hide hn2
        have HD2 := hide hD2
        have Hr2 := hide hr2
        have HFm := hide hfm
        have HOut := hide (show (∀ p tl, f2.L = p :: tl → s.now < toTick p.ready) → ∀ n, ∃ (left : Nat → Bool) (t : PS), J t ∧ PTo w P s (wr.drewN n) t ∧ Stay s t ∧ t.o w.heap.size = 0 ∧ RangeF (wr.drewN n) s.M w.heap.size (adrs s.fs) left ∧ ∀ k f p tl, t.fs k = some f → left k = false → f.L = p :: tl → s.now < toTick p.ready from fun hh n => by
          refine ⟨_, t2, hJ2, hT2.below (drewN_bel (Below.refl _ _) n), hS2, hr2, hR2.drewN n, fun j f p tl h1 h2 h3 => ?_⟩
          by_cases hjk : j = k
          · subst hjk
            rw [hf2] at h1
            obtain rfl := Option.some.inj h1
            exact hh p tl h3
          · refine hD2 j f p tl h1 hjk ?_ h3
            simpa [hjk] using h2)
        cases hL : f2.L with
        | nil =>
          rw [hL] at c14
          have HO := hide (unhide HOut (fun p tl e => by rw [hL] at e; cases e))
          clear hJ2 hT2 hS2 hr2 hR2 hL2 hf2 ha2 hn2 hD2 hfm hvh hL HOut
          go_wp2_with fail
          go_quiet (fail)
          go_wp2_with fail
          go_roundw
          case rel => exact unhide HO _
          case measure => exact Nat.lt_of_le_of_lt (Nat.le_of_eq (unhide HL2)) (unhide HLt)
        | cons p tl =>
          rw [hL] at c14 hvh
          have hhl := hfm.hl.1
          rw [hL] at hhl
          obtain ⟨g, off, cap, hv, hg, hc1, hc2, hcell⟩ := off_form (n := tl.length) hhl
          rw [← hvh, hv] at c14
          have d3 := hcell 3 _ rfl
          have hln : (0 : Int) < (tl.length : Int) + 1 := by omega
          by_cases hle : toTick p.ready ≤ s.now
          · have hRg := unhide HJg t2 hJ2
            have hrd0 := hRg.rd k f2 hf2 p (by rw [hL]; exact List.mem_cons_self ..)
            have hd0 := hRg.d k f2 hf2
            have hHl := hRg.h
            have hHn := hRg.n1
            have hnow := hS2.n
            rw [hv] at hhl
            obtain ⟨vt, HVT, ht1, ht2⟩ : ∃ vt, Hid (vt = tlV g off 4 tl.length cap) ∧ World.offRow wr 118 4 vt tl.length (hcells tl) ∧ ∀ g', vt.ownBlock = some g' → g' = g := tail_form (hd := hcs p) hhl rfl
            have d0 := hcell 0 _ rfl
            have d1 := hcell 1 _ rfl
            have d2 := hcell 2 _ rfl
            rw [Nat.add_zero] at d0
            have HTk := hide (fun nq => ((unhide HT2).below (drewN_bel (Below.refl _ _) nq)).taken (unhide HF2) (tl := tl) (vt := vt) (World.offRow.drewN ht1 nq) (fun g' hg' => by rw [hv, ht2 g' hg']; rfl) #[.int .i64 p.flow, .int .i64 p.seq, .int .i64 p.size, .int .i64 (toTick p.ready)])
            have HR3 := hide (fun nq => hR2.drewN nq)
            have HLe := hide hle
            have HLL := hide hL
            have HTl := hide (show tl.length < gk - 1 ∨ tl.length + 1 < gk from .inr (by rw [hL] at hn2; simpa using hn2))
            have cA : ∀ (b j : Nat), b < wr.heap.size → ∀ nq ob, ((wr.drewN nq).alloc ob).cell? ⟨b, j, none⟩ = wr.cell? ⟨b, j, none⟩ := fun b j hb nq ob => World.cell?_alloc_past ob b j hb
            have hab : f0.a < wr.heap.size := by rw [← ha2]; exact hfm.blk.lt
            have z14 : wr.frozen? ⟨f0.a, 14, none⟩ = false := by rw [← ha2]; exact hfm.blk.frozen 14
            have hcap : (tl.length : Int) + 1 ≤ (cap : Int) := by omega
            unfold maxLen at hc2
            generalize hrdy : toTick p.ready = rdy at *
            have HRdy := hide hrdy
            clear hJ2 hT2 hS2 hr2 hR2 hL2 hf2 ha2 hn2 hD2 hfm hvh hL HOut hv hhl hcell hc1 ht1 ht2 hRg hrdy
            go_wp2_with fail
            go_quiet (fail)
            have c14A := fun ob => (cA f0.a 14 hab nq ob).trans c14
            have z14A : (wr.drewN nq).frozen? ⟨f0.a, 14, none⟩ = false := z14
            have d0A : (wr.drewN nq).cell? ⟨g, off, none⟩ = some (.int .i64 p.flow) := d0
            have d1A : (wr.drewN nq).cell? ⟨g, off + 1, none⟩ = some (.int .i64 p.seq) := d1
            have d2A : (wr.drewN nq).cell? ⟨g, off + 2, none⟩ = some (.int .i64 p.size) := d2
            have d3A : (wr.drewN nq).cell? ⟨g, off + 3, none⟩ = some (.int .i64 rdy) := d3
            have c14B : (wr.drewN nq).cell? ⟨f0.a, 14, none⟩ = some (.slice (some ⟨g, off, none⟩) (tl.length + 1) cap) := c14
            have HX := hide (unhide HTk nq)
            have HRX := hide (unhide HR3 nq)
            have HLX := hide (show (wr.drewN nq).rangeLeft s.M w.heap.size = w1.rangeLeft s.M w.heap.size from unhide HL2)
            have habX : f0.a < (wr.drewN nq).heap.size := hab
            have HFr := hide (show t2.o (wr.drewN nq).heap.size = 0 from (unhide HT2).pm.free _ (Nat.le_refl _))
            clear d0 d1 d2 d3 c14 z14 cA HTk HR3
            generalize wr.drewN nq = W1 at *
            by_cases hcp : cap = 1
            · have htv : vt = .slice (some ⟨g, off, none⟩) tl.length 0 := by rw [unhide HVT, tlV, if_pos hcp]
              subst htv
              subst hcp
              go_wp2_with fail
              have hne : f2.a = f0.a := unhide HA2
              have hXT := (unhide HX).1
              have hXO := (unhide HX).2
              rw [hne] at hXT hXO
              have hNew := new_behind W1 ⟨f0.a, 14, none⟩ (.slice (some ⟨g, off, none⟩) tl.length 0) (.cells #[.int .i64 p.flow, .int .i64 p.seq, .int .i64 p.size, .int .i64 rdy] 118)
              have HXT := hide hXT
              have HXO := hide hXO
              have HNew := hide hNew
              clear hne hXT hXO hNew HX c14A c14B z14A d0A d1A d2A d3A
              generalize ((W1.setCell ⟨f0.a, 14, none⟩ (.slice (some ⟨g, off, none⟩) tl.length 0)).alloc (.cells #[.int .i64 p.flow, .int .i64 p.seq, .int .i64 p.size, .int .i64 rdy] 118)) = X at *
              have hq := (unhide HT2).q
              have hPX := (unhide HXT).pm
              have hfX := hPX.fl k _ (upd_same _ _ _)
              have hSo : ∀ w', Only (fun i => t2.o i = 2 ∨ t2.o i = 4) X w' → w'.cell? ⟨W1.heap.size, 0, none⟩ = some (.int .i64 p.flow) ∧ w'.cell? ⟨W1.heap.size, 1, none⟩ = some (.int .i64 p.seq) ∧ w'.cell? ⟨W1.heap.size, 2, none⟩ = some (.int .i64 p.size) ∧ w'.cell? ⟨W1.heap.size, 3, none⟩ = some (.int .i64 rdy) ∧ w'.cell? ⟨f0.a, 4, none⟩ = some (.int .i64 f2.f.d) := fun w' ho => by
                have hN : Is w' W1.heap.size 118 #[.int .i64 p.flow, .int .i64 p.seq, .int .i64 p.size, .int .i64 rdy] := Is.only (show Is X W1.heap.size 118 _ from unhide HNew) ho (fun e => by rw [unhide HFr] at e; omega)
                have hF := hfX.blk.only ho (fun e => by have := hfX.ob; have e' : t2.o f0.a = 2 ∨ t2.o f0.a = 4 := e; have o' : t2.o f0.a = 7 + 2 * k := this; omega)
                exact ⟨hN.cell (j := 0) rfl, hN.cell (j := 1) rfl, hN.cell (j := 2) rfl, hN.cell (j := 3) rfl, hF.cell (j := 4) rfl⟩
              have hPD := hPX.below (Below.refl _ _).drew
              have HPush := hide (hpush_any t2.Q 3 t2.H (enP p f2.f.d) X.drew 116 _ t2.vr hPD.inn rfl hPD.rd hPD.hp (fun e => by have := hPX.ord _ e; have o2 := hPX.oQ; have e1 : t2.o t2.Q = 4 := this; have e2 : t2.o t2.Q = 2 := o2; omega) hHl)
              have HQu := hide (fun (w5 : World) (v' : Value) (H' : List En) => hPD.queue (w' := w5) (v' := v') (H' := H'))
              have HOrd := hide (show ∀ i, (i = s.Q ∨ t2.vr.ownBlock = some i) → t2.o i = 2 ∨ t2.o i = 4 from fun i e => by
                rcases e with e | e
                · left; rw [e, ← hq]; exact hPX.oQ
                · right; exact hPX.ord i e)
              have hrw : IntKind.i64.wrap (rdy + f2.f.d) = rdy + f2.f.d := by go_arith
              have HSo := hide hSo
              have HMt := hide (show t2.o s.M = 3 from by have := hPX.oM; have e : t2.M = s.M := (unhide HS2).m; rw [← e]; exact this)
              have HfO := hide (show t2.o f0.a = 7 + 2 * k from hfX.ob)
              rw [hq] at HPush
              unfold qif enP ecs at HPush
              rw [unhide HRdy] at HPush
              have HQ := hide hq
              clear hq hPX hfX hSo hPD
              go_region_held3 (fun w' : World => w'.cell? ⟨W1.heap.size, 0, none⟩ = some (.int .i64 p.flow) ∧ w'.cell? ⟨W1.heap.size, 1, none⟩ = some (.int .i64 p.seq) ∧ w'.cell? ⟨W1.heap.size, 2, none⟩ = some (.int .i64 p.size) ∧ w'.cell? ⟨W1.heap.size, 3, none⟩ = some (.int .i64 rdy) ∧ w'.cell? ⟨f0.a, 4, none⟩ = some (.int .i64 f2.f.d))
                (first | exact unhide HSo _ (Only.of_below (Below.refl _ _).drew) | exact unhide HSo _ (by assumption))
                (first | (go_at_call 116; refine (unhide HPush).mono ?_; rintro e w5 ⟨rfl, v', H', hI5, hQ5, hH5, hP5, hg5, hO5⟩; have hOS : Only (fun i => t2.o i = 2 ∨ t2.o i = 4) X w5 := (Only.of_below (Below.refl _ _).drew).trans (hO5.mono fun i _ e => unhide HOrd i e) (fun _ _ h => h)))
              all_goals
                have hT5 := unhide HQu w5 v' H' (by rw [unhide HQ]; exact hI5) hQ5 hH5 (fun g' hg' => by
                  obtain ⟨g2, e1, e2⟩ := hg5
                  rw [e1] at hg'
                  obtain rfl := Option.some.inj hg'
                  exact e2) (by rw [unhide HQ]; exact hO5)
                have HT6 := hide (((unhide HXT).below (Below.refl _ _).drew).trans hT5)
                have hrl : w.heap.size < W1.heap.size := (unhide HRX).lt
                have hxs : W1.heap.size ≤ X.heap.size := (unhide HXO).size
                have hR5 := (unhide HRX).only (unhide HXO) (fun e => by have e1 := unhide HMt; rw [e, unhide HfO] at e1; omega) (fun e => by have e1 := unhide Hr2; rw [e, unhide HfO] at e1; omega)
                have hR6 := hR5.1.only hOS (fun e => by rw [unhide HMt] at e; omega) (fun e => by rw [unhide Hr2] at e; omega)
                have HR6 := hide hR6.1
                have HL6 := hide (hR6.2.trans (hR5.2.trans (unhide HLX)))
                have HJ6 := hide (show J { t2 with fs := upd t2.fs k { f2 with a := f0.a, vh := .slice (some ⟨g, off, none⟩) tl.length 0, L := tl }, vr := v', H := H', o := t2.o.give X.drew.heap.size w5.heap.size 4 } from
                  unhide HJ t2 _ (unhide HJ2) ⟨k, f2, p, tl, v', .slice (some ⟨g, off, none⟩) tl.length 0, t2.o.give X.drew.heap.size w5.heap.size 4, H', unhide HF2, unhide HLL, by rw [unhide HRdy, (unhide HS2).n]; exact unhide HLe, hH5, by unfold enP; rw [unhide HRdy]; exact hP5, by rw [unhide HA2]⟩)
                have HO6 := hide (show (t2.o.give X.drew.heap.size w5.heap.size 4) w.heap.size = 0 from (give_old (show w.heap.size < X.drew.heap.size from Nat.lt_of_lt_of_le hrl hxs)).trans (unhide Hr2))
                clear hI5 hQ5 hH5 hP5 hg5 hO5 hOS hT5 hR5 hR6 HQu HPush
                go_wp2_with fail
                go_roundg (tl.length + 1)
                case measure => have := unhide HTl; omega
                case rel =>
                  refine ⟨_, _, unhide HJ6, unhide HT6, (unhide HS2).trans ⟨rfl, rfl, adrs_upd (unhide HF2) (unhide HA2).symm⟩, unhide HO6, unhide HR6, unhide HL6, upd_same _ _ _, rfl, Nat.lt_succ_self _, fun j f p' tl' h1 h2 h3 h4 => ?_⟩
                  exact unhide HD2 j f p' tl' ((upd_far t2.fs _ h2).symm.trans h1) h2 h3 h4
            · have htv : vt = .slice (some ⟨g, off + 4, none⟩) tl.length (cap - 1) := by rw [unhide HVT, tlV, if_neg hcp]
              subst htv
              go_wp2_with fail
              have hne : f2.a = f0.a := unhide HA2
              have hXT := (unhide HX).1
              have hXO := (unhide HX).2
              rw [hne] at hXT hXO
              have hNew := new_behind W1 ⟨f0.a, 14, none⟩ (.slice (some ⟨g, off + 4, none⟩) tl.length (cap - 1)) (.cells #[.int .i64 p.flow, .int .i64 p.seq, .int .i64 p.size, .int .i64 rdy] 118)
              have HXT := hide hXT
              have HXO := hide hXO
              have HNew := hide hNew
              clear hne hXT hXO hNew HX c14A c14B z14A d0A d1A d2A d3A
              generalize ((W1.setCell ⟨f0.a, 14, none⟩ (.slice (some ⟨g, off + 4, none⟩) tl.length (cap - 1))).alloc (.cells #[.int .i64 p.flow, .int .i64 p.seq, .int .i64 p.size, .int .i64 rdy] 118)) = X at *
              have hq := (unhide HT2).q
              have hPX := (unhide HXT).pm
              have hfX := hPX.fl k _ (upd_same _ _ _)
              have hSo : ∀ w', Only (fun i => t2.o i = 2 ∨ t2.o i = 4) X w' → w'.cell? ⟨W1.heap.size, 0, none⟩ = some (.int .i64 p.flow) ∧ w'.cell? ⟨W1.heap.size, 1, none⟩ = some (.int .i64 p.seq) ∧ w'.cell? ⟨W1.heap.size, 2, none⟩ = some (.int .i64 p.size) ∧ w'.cell? ⟨W1.heap.size, 3, none⟩ = some (.int .i64 rdy) ∧ w'.cell? ⟨f0.a, 4, none⟩ = some (.int .i64 f2.f.d) := fun w' ho => by
                have hN : Is w' W1.heap.size 118 #[.int .i64 p.flow, .int .i64 p.seq, .int .i64 p.size, .int .i64 rdy] := Is.only (show Is X W1.heap.size 118 _ from unhide HNew) ho (fun e => by rw [unhide HFr] at e; omega)
                have hF := hfX.blk.only ho (fun e => by have := hfX.ob; have e' : t2.o f0.a = 2 ∨ t2.o f0.a = 4 := e; have o' : t2.o f0.a = 7 + 2 * k := this; omega)
                exact ⟨hN.cell (j := 0) rfl, hN.cell (j := 1) rfl, hN.cell (j := 2) rfl, hN.cell (j := 3) rfl, hF.cell (j := 4) rfl⟩
              have hPD := hPX.below (Below.refl _ _).drew
              have HPush := hide (hpush_any t2.Q 3 t2.H (enP p f2.f.d) X.drew 116 _ t2.vr hPD.inn rfl hPD.rd hPD.hp (fun e => by have := hPX.ord _ e; have o2 := hPX.oQ; have e1 : t2.o t2.Q = 4 := this; have e2 : t2.o t2.Q = 2 := o2; omega) hHl)
              have HQu := hide (fun (w5 : World) (v' : Value) (H' : List En) => hPD.queue (w' := w5) (v' := v') (H' := H'))
              have HOrd := hide (show ∀ i, (i = s.Q ∨ t2.vr.ownBlock = some i) → t2.o i = 2 ∨ t2.o i = 4 from fun i e => by
                rcases e with e | e
                · left; rw [e, ← hq]; exact hPX.oQ
                · right; exact hPX.ord i e)
              have hrw : IntKind.i64.wrap (rdy + f2.f.d) = rdy + f2.f.d := by go_arith
              have HSo := hide hSo
              have HMt := hide (show t2.o s.M = 3 from by have := hPX.oM; have e : t2.M = s.M := (unhide HS2).m; rw [← e]; exact this)
              have HfO := hide (show t2.o f0.a = 7 + 2 * k from hfX.ob)
              rw [hq] at HPush
              unfold qif enP ecs at HPush
              rw [unhide HRdy] at HPush
              have HQ := hide hq
              clear hq hPX hfX hSo hPD
              go_region_held3 (fun w' : World => w'.cell? ⟨W1.heap.size, 0, none⟩ = some (.int .i64 p.flow) ∧ w'.cell? ⟨W1.heap.size, 1, none⟩ = some (.int .i64 p.seq) ∧ w'.cell? ⟨W1.heap.size, 2, none⟩ = some (.int .i64 p.size) ∧ w'.cell? ⟨W1.heap.size, 3, none⟩ = some (.int .i64 rdy) ∧ w'.cell? ⟨f0.a, 4, none⟩ = some (.int .i64 f2.f.d))
                (first | exact unhide HSo _ (Only.of_below (Below.refl _ _).drew) | exact unhide HSo _ (by assumption))
                (first | (go_at_call 116; refine (unhide HPush).mono ?_; rintro e w5 ⟨rfl, v', H', hI5, hQ5, hH5, hP5, hg5, hO5⟩; have hOS : Only (fun i => t2.o i = 2 ∨ t2.o i = 4) X w5 := (Only.of_below (Below.refl _ _).drew).trans (hO5.mono fun i _ e => unhide HOrd i e) (fun _ _ h => h)))
              all_goals
                have hT5 := unhide HQu w5 v' H' (by rw [unhide HQ]; exact hI5) hQ5 hH5 (fun g' hg' => by
                  obtain ⟨g2, e1, e2⟩ := hg5
                  rw [e1] at hg'
                  obtain rfl := Option.some.inj hg'
                  exact e2) (by rw [unhide HQ]; exact hO5)
                have HT6 := hide (((unhide HXT).below (Below.refl _ _).drew).trans hT5)
                have hrl : w.heap.size < W1.heap.size := (unhide HRX).lt
                have hxs : W1.heap.size ≤ X.heap.size := (unhide HXO).size
                have hR5 := (unhide HRX).only (unhide HXO) (fun e => by have e1 := unhide HMt; rw [e, unhide HfO] at e1; omega) (fun e => by have e1 := unhide Hr2; rw [e, unhide HfO] at e1; omega)
                have hR6 := hR5.1.only hOS (fun e => by rw [unhide HMt] at e; omega) (fun e => by rw [unhide Hr2] at e; omega)
                have HR6 := hide hR6.1
                have HL6 := hide (hR6.2.trans (hR5.2.trans (unhide HLX)))
                have HJ6 := hide (show J { t2 with fs := upd t2.fs k { f2 with a := f0.a, vh := .slice (some ⟨g, off + 4, none⟩) tl.length (cap - 1), L := tl }, vr := v', H := H', o := t2.o.give X.drew.heap.size w5.heap.size 4 } from
                  unhide HJ t2 _ (unhide HJ2) ⟨k, f2, p, tl, v', .slice (some ⟨g, off + 4, none⟩) tl.length (cap - 1), t2.o.give X.drew.heap.size w5.heap.size 4, H', unhide HF2, unhide HLL, by rw [unhide HRdy, (unhide HS2).n]; exact unhide HLe, hH5, by unfold enP; rw [unhide HRdy]; exact hP5, by rw [unhide HA2]⟩)
                have HO6 := hide (show (t2.o.give X.drew.heap.size w5.heap.size 4) w.heap.size = 0 from (give_old (show w.heap.size < X.drew.heap.size from Nat.lt_of_lt_of_le hrl hxs)).trans (unhide Hr2))
                clear hI5 hQ5 hH5 hP5 hg5 hO5 hOS hT5 hR5 hR6 HQu HPush
                go_wp2_with fail
                go_roundg (tl.length + 1)
                case measure => have := unhide HTl; omega
                case rel =>
                  refine ⟨_, _, unhide HJ6, unhide HT6, (unhide HS2).trans ⟨rfl, rfl, adrs_upd (unhide HF2) (unhide HA2).symm⟩, unhide HO6, unhide HR6, unhide HL6, upd_same _ _ _, rfl, Nat.lt_succ_self _, fun j f p' tl' h1 h2 h3 h4 => ?_⟩
                  exact unhide HD2 j f p' tl' ((upd_far t2.fs _ h2).symm.trans h1) h2 h3 h4
          · have HO := hide (unhide HOut (fun p' tl' e => by
              rw [hL] at e
              obtain ⟨rfl, rfl⟩ := List.cons.inj e
              omega))
            have hle2 : decide (toTick p.ready ≤ s.now) = false := by simpa using hle
            generalize toTick p.ready = rdy at *
            clear hJ2 hT2 hS2 hr2 hR2 hL2 hf2 ha2 hn2 hD2 hfm hvh hL HOut hv hhl hcell hc1 hc2
            go_wp2_with fail
            go_quiet (fail)
            go_wp2_with fail
            go_roundw
            case rel => exact unhide HO _
            case measure => exact Nat.lt_of_le_of_lt (Nat.le_of_eq (unhide HL2)) (unhide HLt)
end Go.Proofs.YtcnmajndackohaaGreatDoor
/-
  Plain: packets of size 1 that are brought all at once become ready as fast as may be.
-/
namespace Go.Proofs.YtcnmajndackohaaGreatDoor

theorem am_pos {f : Fl} {t : Int} (h : 0 ≤ t) : f.am t = min (f.s + f.p * t / 12) (f.b + f.r * t / 12) := allow_pos _ _ _ _ _ h
/-- The j-th unit, ready at r: just when so much may come. -/
structure Un (f : Fl) (j r : Int) : Prop where
  lo : 1 ≤ r
  hi : j ≤ f.am (r - 1)
  least : r = 1 ∨ f.am (r - 2) < j
theorem am_lt {f : Fl} (hf : f.may) {t u k : Int} (h1 : f.am t < k) (h2 : k ≤ f.am u) : t < u := by
  by_cases g : t < u
  · exact g
  · have := am_mono hf (show u ≤ t by omega); omega
/-- From the j-th on as much may come as from the first on. -/
theorem am_rest {f : Fl} (hf : f.may) {j k x y : Int} (hj : 1 ≤ j) (hx : Un f j x) (hxy : x ≤ y) (hk : k ≤ f.am (y - 1)) : k - j + 1 ≤ f.am (y - x) := by
  have lo := hx.lo
  rcases hx.least with e | hl
  · rw [e]; omega
  · obtain ⟨s0, s1, b0, b1, r0, p0, p1, d0, d1⟩ := hf
    by_cases e1 : x = 1
    · rw [e1]; omega
    rw [am_pos (by omega)] at hk hl ⊢
    have m1 : f.p * (y - 1) = f.p * (y - x) + f.p * (x - 2) + f.p := by
      rw [show y - 1 = (y - x) + (x - 2) + 1 by omega, Int.mul_add, Int.mul_add, Int.mul_one]
    have m2 : f.r * (y - 1) = f.r * (y - x) + f.r * (x - 2) + f.r := by
      rw [show y - 1 = (y - x) + (x - 2) + 1 by omega, Int.mul_add, Int.mul_add, Int.mul_one]
    have m3 := mul_le p0 (show 0 ≤ x - 2 by omega)
    have m4 := mul_le p0 (show 0 ≤ y - x by omega)
    rw [m1, m2] at hk
    generalize f.p * (y - x) = A at *
    generalize f.p * (x - 2) = B at *
    generalize f.r * (y - x) = C at *
    generalize f.r * (x - 2) = D at *
    omega
/-- The next unit is ready at most twelve ticks later. -/
theorem un_gap {f : Fl} (hf : f.may) {j x y T : Int} (hx : Un f j x) (hy : Un f (j + 1) y) (hT : j + 1 ≤ f.am T) : y ≤ x + 12 := by
  rcases hy.least with e | hl
  · have := hx.lo; omega
  · have lo := hx.lo
    have ly := hy.lo
    by_cases g : y ≤ x + 12
    · exact g
    · exfalso
      have h1 := hx.hi
      have h2 := am_mono hf (show x + 11 ≤ y - 2 by omega)
      have hT0 : 0 ≤ T := by
        by_cases k : 0 ≤ T
        · exact k
        · have e0 : f.am T = 0 := allow_neg _ _ _ _ _ (by omega)
          have := am_nonneg hf (y - 2); omega
      obtain ⟨s0, s1, b0, b1, r0, p0, p1, d0, d1⟩ := hf
      rw [am_pos (by omega)] at h1
      rw [am_pos (show (0 : Int) ≤ x + 11 by omega)] at h2
      rw [am_pos hT0] at hT
      have e1 : f.p * (x + 11) = f.p * (x - 1) + f.p * 12 := by rw [← Int.mul_add, show x - 1 + 12 = x + 11 by omega]
      have e2 : f.r * (x + 11) = f.r * (x - 1) + f.r * 12 := by rw [← Int.mul_add, show x - 1 + 12 = x + 11 by omega]
      rw [e1, e2] at h2
      have m1 : 0 ≤ f.p * (x - 1) := Int.mul_nonneg (by omega) (by omega)
      have m2 : 0 ≤ f.r * (x - 1) := Int.mul_nonneg (by omega) (by omega)
      by_cases hr : f.r = 0
      · rw [hr] at h1 h2 hT
        simp only [Int.zero_mul] at h1 h2 hT
        by_cases hp : f.p = 0
        · rw [hp] at h1 h2 hT
          simp only [Int.zero_mul] at h1 h2 hT
          omega
        · omega
      · omega
/-- The least tick for the j-th unit. -/
theorem un_some {f : Fl} (hf : f.may) {j : Int} : ∀ (n : Nat), j ≤ f.am n → ∃ r, Un f j r ∧ r ≤ n + 1
  | 0, h => ⟨1, ⟨Int.le_refl _, h, .inl rfl⟩, by omega⟩
  | n + 1, h => by
    by_cases g : j ≤ f.am n
    · obtain ⟨r, hr, hle⟩ := un_some hf n g
      exact ⟨r, hr, by omega⟩
    · refine ⟨n + 2, ⟨by omega, ?_, .inr ?_⟩, by omega⟩
      · rw [show ((n : Int) + 2 - 1) = ((n + 1 : Nat) : Int) by omega]; exact h
      · rw [show ((n : Int) + 2 - 2) = (n : Int) by omega]; omega
theorem un_uniq {f : Fl} (hf : f.may) {j x y : Int} (hx : Un f j x) (hy : Un f j y) : x = y := by
  have := hx.lo; have := hy.lo
  have a : x ≤ y := by
    rcases hx.least with e | e
    · omega
    · have := am_lt hf e hy.hi; omega
  have b : y ≤ x := by
    rcases hy.least with e | e
    · omega
    · have := am_lt hf e hx.hi; omega
  omega

/-- The packets of flow k are m units (the newest first). -/
def Uns (f : Fl) (k : Int) : List Sk → Nat → Prop
  | [], m => m = 0
  | q :: l, m => if q.flow = k then (∃ m', m = m' + 1 ∧ q.size = 1 ∧ Un f m q.ready ∧ Uns f k l m') else Uns f k l m
theorem uns_none {f : Fl} {k : Int} : ∀ {l : List Sk}, (∀ x ∈ l, x.flow ≠ k) → Uns f k l 0
  | [], _ => rfl
  | q :: _, h => by
    unfold Uns
    rw [if_neg (h q (List.mem_cons_self ..))]
    exact uns_none fun x hx => h x (List.mem_cons_of_mem _ hx)
theorem uns_conf {f : Fl} (hf : f.may) {k r M : Int} (hM : M ≤ f.am (r - 1)) : ∀ {l : List Sk} {m : Nat} {sum : Int}, Uns f k l m → sum + m = M → (m : Int) ≤ M → confL f k r l sum = true
  | [], _, _, _, _, _ => rfl
  | q :: l, m, sum, h, hs, hm => by
    unfold Uns at h
    unfold confL
    by_cases g : q.flow = k
    · rw [if_pos g] at h ⊢
      obtain ⟨m', rfl, e1, hu, h'⟩ := h
      have hle : q.ready ≤ r := by
        rcases hu.least with e | e
        · have : 1 ≤ r := by
            by_cases c : 1 ≤ r
            · exact c
            · have e0 : f.am (r - 1) = 0 := allow_neg _ _ _ _ _ (by omega)
              omega
          omega
        · have := am_lt hf e (show ((m' + 1 : Nat) : Int) ≤ f.am (r - 1) by omega); omega
      have hr := am_rest hf (by omega) hu hle hM
      have lo := hu.lo
      have ih := uns_conf hf hM h' (show sum + q.size + m' = M by omega) (by omega)
      simp only [ih, Bool.and_true, Bool.and_eq_true, decide_eq_true_eq]
      omega
    · rw [if_neg g] at h ⊢
      exact uns_conf hf hM h hs hm
theorem uns_back {f : Fl} (hf : f.may) {k r : Int} : ∀ {l : List Sk} {m : Nat} {sum : Int}, Uns f k l m → 1 ≤ m → confL f k r l sum = true → sum + m ≤ f.am (r - 1)
  | [], m, _, h, hm, _ => by have : m = 0 := h; omega
  | q :: l, m, sum, h, hm, hc => by
    unfold Uns at h
    unfold confL at hc
    by_cases g : q.flow = k
    · rw [if_pos g] at h hc
      obtain ⟨m', rfl, e1, hu, h'⟩ := h
      simp only [Bool.and_eq_true, decide_eq_true_eq] at hc
      by_cases z : m' = 0
      · subst z
        have e : q.ready = 1 := by
          rcases hu.least with e | e
          · exact e
          · have h0 := am_zero hf
            have := hf.s0
            have := am_lt hf e (show ((0 + 1 : Nat) : Int) ≤ f.am 0 by omega)
            have := hu.lo; omega
        have := hc.1.2
        rw [e, e1] at this
        omega
      · have ih := uns_back hf h' (by omega) hc.2
        omega
    · rw [if_neg g] at h hc
      exact uns_back hf h hm hc
theorem uns_ready {f : Fl} {k : Int} : ∀ {l : List Sk} {m : Nat}, Uns f k l m → ∀ x ∈ l, x.flow = k → ∃ j : Nat, 1 ≤ j ∧ j ≤ m ∧ Un f j x.ready
  | [], _, _, x, hx, _ => by cases hx
  | q :: l, m, h, x, hx, hk => by
    unfold Uns at h
    by_cases g : q.flow = k
    · rw [if_pos g] at h
      obtain ⟨m', rfl, _, hu, h'⟩ := h
      rcases List.mem_cons.1 hx with rfl | hx
      · exact ⟨m' + 1, by omega, Nat.le_refl _, hu⟩
      · obtain ⟨j, a, b, c⟩ := uns_ready h' x hx hk
        exact ⟨j, a, by omega, c⟩
    · rw [if_neg g] at h
      rcases List.mem_cons.1 hx with rfl | hx
      · exact absurd hk g
      · exact uns_ready h x hx hk
theorem uns_last {f : Fl} {k : Int} : ∀ {l : List Sk} {m : Nat}, Uns f k l m → 1 ≤ m → ∃ x ∈ l, x.flow = k ∧ Un f m x.ready
  | [], m, h, hm => by have : m = 0 := h; omega
  | q :: l, m, h, hm => by
    unfold Uns at h
    by_cases g : q.flow = k
    · rw [if_pos g] at h
      obtain ⟨m', rfl, _, hu, _⟩ := h
      exact ⟨q, List.mem_cons_self .., g, hu⟩
    · rw [if_neg g] at h
      obtain ⟨x, hx, a⟩ := uns_last h hm
      exact ⟨x, List.mem_cons_of_mem _ hx, a⟩
theorem latest_le {k R : Int} : ∀ {pk : List Pk} {now : Int}, now ≤ R → (∀ p ∈ pk, p.flow = k → p.ready ≤ R) → latest k now pk ≤ R
  | [], _, h, _ => h
  | p :: l, now, h, hp => by
    have e : latest k now (p :: l) = latest k (if p.flow = k ∧ now < p.ready then p.ready else now) l := rfl
    rw [e]
    refine latest_le ?_ fun q hq => hp q (List.mem_cons_of_mem _ hq)
    split
    · rename_i g; exact hp p (List.mem_cons_self ..) g.1
    · exact h
theorem latest_mem {k : Int} : ∀ {pk : List Pk} {now : Int}, ∀ p ∈ pk, p.flow = k → p.ready ≤ latest k now pk
  | [], _, p, hp, _ => by cases hp
  | q :: l, now, p, hp, hk => by
    have e : latest k now (q :: l) = latest k (if q.flow = k ∧ now < q.ready then q.ready else now) l := rfl
    rw [e]
    rcases List.mem_cons.1 hp with rfl | hp
    · refine Int.le_trans ?_ (latest_ge k l _)
      split <;> omega
    · exact latest_mem p hp hk
theorem seekR_least (c : Int → Bool) : ∀ (n : Nat) (r0 r : Int), r0 ≤ r → r < r0 + n → c r = true → r0 ≤ seekR c n r0 ∧ seekR c n r0 ≤ r ∧ c (seekR c n r0) = true
  | 0, r0, r, h1, h2, _ => by omega
  | n + 1, r0, r, h1, h2, hc => by
    unfold seekR
    split
    · rename_i g; exact ⟨Int.le_refl _, h1, g⟩
    · rename_i g
      have : r ≠ r0 := by rintro rfl; exact g hc
      have ih := seekR_least c n (r0 + 1) r (by omega) (by omega) hc
      exact ⟨by omega, ih.2.1, ih.2.2⟩
/-- The next unit of a flow. -/
theorem unit_ready {x : Ln} {f : Fl} (hf : f.may) {k T : Int} {m : Nat} (hn : x.now = 1) (hu : Uns f k (x.pk.map Pk.sk).reverse m) (hT : (m : Int) + 1 ≤ f.am T) : Un f ((m + 1 : Nat) : Int) (x.readyAt f k 1) := by
  have hs0 := hf.s0
  have hz := am_zero hf
  have hT0 : 0 ≤ T := by
    by_cases g : 0 ≤ T
    · exact g
    · have e0 : f.am T = 0 := allow_neg _ _ _ _ _ (by omega)
      omega
  obtain ⟨R, hR, _⟩ := un_some hf (j := ((m + 1 : Nat) : Int)) T.toNat (by rw [Int.toNat_of_nonneg hT0]; omega)
  have mem : ∀ p ∈ x.pk, p.sk ∈ (x.pk.map Pk.sk).reverse := fun p hp => List.mem_reverse.2 (List.mem_map_of_mem hp)
  have lR : latest k x.now x.pk ≤ R := by
    refine latest_le (by rw [hn]; exact hR.lo) fun p hp hk => ?_
    obtain ⟨j, j1, jm, ju⟩ := uns_ready hu p.sk (mem p hp) hk
    have hp' : Un f j p.ready := ju
    rcases hp'.least with e | e
    · have := hR.lo; omega
    · have := am_lt hf e (show (j : Int) ≤ f.am (R - 1) by have := hR.hi; omega); omega
  have hgap : R ≤ latest k x.now x.pk + 12 := by
    by_cases m0 : m = 0
    · have : R ≤ 1 := by
        rcases hR.least with e | e
        · omega
        · have := am_lt hf e (show ((m + 1 : Nat) : Int) ≤ f.am 0 by omega); omega
      have := latest_ge k x.pk x.now
      omega
    · obtain ⟨y, hy, hyk, hyu⟩ := uns_last hu (by omega)
      rw [List.mem_reverse, List.mem_map] at hy
      obtain ⟨p, hp, rfl⟩ := hy
      have a := latest_mem (now := x.now) p hp hyk
      have b := un_gap hf hyu (show Un f ((m : Int) + 1) R from by simpa using hR) hT
      have c : p.sk.ready = p.ready := rfl
      omega
  have hc : conf f k 1 (x.pk.map Pk.sk).reverse R = true := by
    unfold conf
    have := uns_conf hf hR.hi hu (show (1 : Int) + m = ((m + 1 : Nat) : Int) by omega) (by omega)
    simp only [this, Bool.and_true, decide_eq_true_eq]
    omega
  obtain ⟨g1, g2, g3⟩ := seekR_least (conf f k 1 (x.pk.map Pk.sk).reverse) 401 (latest k x.now x.pk) R lR (by omega) hc
  have e : ∀ Z, latest k x.now x.pk ≤ Z → Z ≤ R → conf f k 1 (x.pk.map Pk.sk).reverse Z = true → Z = R := by
    intro Z z1 z2 z3
    have hge : R ≤ Z := by
      by_cases m0 : m = 0
      · have : R ≤ 1 := by
          rcases hR.least with e | e
          · omega
          · have := am_lt hf e (show ((m + 1 : Nat) : Int) ≤ f.am 0 by omega); omega
        have := latest_ge k x.pk x.now
        omega
      · unfold conf at z3
        simp only [Bool.and_eq_true] at z3
        have b := uns_back hf hu (by omega) z3.2
        rcases hR.least with e | e
        · have := latest_ge k x.pk x.now; omega
        · have := am_lt hf e (show ((m + 1 : Nat) : Int) ≤ f.am (Z - 1) by omega)
          omega
    omega
  have e2 : x.readyAt f k 1 = R := e _ g1 g2 g3
  rw [e2]; exact hR
end Go.Proofs.YtcnmajndackohaaGreatDoor
/-
  Plain: what is left, tick by tick; what began is known, what was told is told.
-/
namespace Go.Proofs.YtcnmajndackohaaGreatDoor

/-- What is left of the packets whose flow c tells. -/
def left (c : Int → Bool) (now : Int) (p : Pk) : Int := if c p.flow = true then rem now p else 0
def sumR (c : Int → Bool) (x : Ln) : Int := sumOf (left c x.now) x.pk
def took (c : Int → Bool) : Option Int → Int
  | none => 0
  | some f => if c f = true then 1 else 0
theorem took_none (c : Int → Bool) : took c none = 0 := rfl
theorem took_some (c : Int → Bool) (f : Int) : took c (some f) = if c f = true then 1 else 0 := rfl
theorem took_le (c : Int → Bool) (q : Option Int) : 0 ≤ took c q ∧ took c q ≤ 1 := by
  cases q with
  | none => rw [took_none]; decide
  | some f => rw [took_some]; split <;> decide
theorem modify_eq {α : Type} (l : List α) (f : α → α) (i : Nat) : (l.modify i f)[i]? = l[i]?.map f := by simp
theorem modify_ne {α : Type} (l : List α) (f : α → α) {i j : Nat} (h : i ≠ j) : (l.modify i f)[j]? = l[j]? := by
  rw [List.getElem?_modify]; simp [h]
theorem rem_still {now : Int} {p : Pk} (h : done now p) : rem (now + 1) p = rem now p := by
  unfold rem done at *
  by_cases g : p.start < 0
  · rw [if_pos g, if_pos g]
  · rw [if_neg g, if_neg g, if_neg (by omega), if_neg (by omega)]
theorem rem_under {now : Int} {p : Pk} (h0 : 0 ≤ p.start) (h1 : now < p.start + p.size) : rem (now + 1) p = rem now p - 1 := by
  have h2 : ¬ p.start < 0 := by omega
  simp only [rem, if_neg h2, if_pos h1]
  split <;> omega
theorem rem_beg {now : Int} {p : Pk} (hn : 0 ≤ now) (h0 : p.start < 0) (hs : 1 ≤ p.size) : rem (now + 1) (beg now p) = rem now p - 1 := by
  have e1 : (beg now p).start = now := rfl
  have e2 : (beg now p).size = p.size := rfl
  unfold rem
  rw [e1, e2, if_neg (by omega), if_pos h0]
  split <;> omega
theorem rem_nonneg {now : Int} {p : Pk} (h : 1 ≤ p.size) : 0 ≤ rem now p := by
  have := run_le_rem (now := now) h; omega
/-- What went in this tick. -/
theorem adv_went {x : Ln} (h : Lnv x) : ∃ q : Option Int, (∀ c, sumR c x.adv = sumR c x - took c q) ∧ (q = none → x.busy = false ∧ x.goes = none) ∧ (x.busy = true → ∃ p, x.last = some p ∧ q = some p.flow) ∧ x.adv.now = x.now + 1 := by
  refine adv_cases h (P := fun y => ∃ q : Option Int, (∀ c, sumR c y = sumR c x - took c q) ∧ (q = none → x.busy = false ∧ x.goes = none) ∧ (x.busy = true → ∃ p, x.last = some p ∧ q = some p.flow) ∧ y.now = x.now + 1) ?_ ?_ ?_
  · intro l1 p l2 hb e hl h0 h1 d1 d2
    refine ⟨some p.flow, fun c => ?_, (fun g => by cases g), fun _ => ⟨p, ?_, rfl⟩, rfl⟩
    · show sumOf (left c (x.now + 1)) x.pk = sumOf (left c x.now) x.pk - _
      rw [e]
      simp only [sumOf_append, sumOf]
      rw [sumOf_congr (l := l1) (g' := left c x.now) fun q hq => by unfold left; rw [rem_still (d1 q hq)], sumOf_congr (l := l2) (g' := left c x.now) fun q hq => by unfold left; rw [rem_still (d2 q hq)]]
      rw [took_some]
      unfold left
      split
      · rw [rem_under h0 h1]; omega
      · omega
    · unfold Ln.last
      rw [hl]
      simp only [Option.bind_some]
      rw [e, get_at]
  · intro hg hall
    refine ⟨none, fun c => ?_, fun _ => ⟨?_, hg⟩, fun hb => ?_, rfl⟩
    · show sumOf (left c (x.now + 1)) x.pk = sumOf (left c x.now) x.pk - _
      rw [sumOf_congr (g' := left c x.now) fun q hq => by unfold left; rw [rem_still (hall q hq)]]
      rw [took_none]; omega
    · cases hb : x.busy with
      | false => rfl
      | true =>
        obtain ⟨l1, p, l2, e, _, _, h0, h1, _⟩ := h.bsy hb
        have := hall p (by rw [e]; simp)
        unfold done at this; omega
    · obtain ⟨l1, p, l2, e, _, _, h0, h1, _⟩ := h.bsy hb
      have := hall p (by rw [e]; simp)
      unfold done at this; omega
  · intro l1 p l2 hg hall e he _
    refine ⟨some p.flow, fun c => ?_, (fun g => by cases g), fun hb => ?_, rfl⟩
    · show sumOf (left c (x.now + 1)) (l1 ++ beg x.now p :: l2) = sumOf (left c x.now) x.pk - _
      have hz := h.sz p (by rw [e]; simp)
      have d1 : ∀ q ∈ l1, done x.now q := fun q hq => hall q (by rw [e]; simp [hq])
      have d2 : ∀ q ∈ l2, done x.now q := fun q hq => hall q (by rw [e]; simp [hq])
      rw [e]
      simp only [sumOf_append, sumOf]
      rw [sumOf_congr (l := l1) (g' := left c x.now) fun q hq => by unfold left; rw [rem_still (d1 q hq)], sumOf_congr (l := l2) (g' := left c x.now) fun q hq => by unfold left; rw [rem_still (d2 q hq)]]
      rw [took_some]
      unfold left
      have ef : (beg x.now p).flow = p.flow := rfl
      rw [ef]
      split
      · rw [rem_beg h.n0 he.1 hz.1]; omega
      · omega
    · exfalso
      obtain ⟨l1', p', l2', e', _, _, h0, h1, _⟩ := h.bsy hb
      have := hall p' (by rw [e']; simp)
      unfold done at this; omega
theorem away_pk (x : Ln) : x.away.pk = x.pk ∧ x.away.now = x.now ∧ x.away.began = x.began := by
  unfold Ln.away; split <;> exact ⟨rfl, rfl, rfl⟩
theorem away_last (x : Ln) : x.away.last = x.last ∧ x.away.busy = x.busy := by
  obtain ⟨a, b, c⟩ := away_pk x
  have hl : x.away.last = x.last := by unfold Ln.last; rw [a, c]
  refine ⟨hl, ?_⟩
  unfold Ln.busy; rw [hl, b]
theorem tick_went {x : Ln} (h : Lnv x) : ∃ q : Option Int, (∀ c, sumR c x.tick = sumR c x - took c q) ∧ (q = none → x.busy = false ∧ x.away.goes = none) ∧ (x.busy = true → ∃ p, x.last = some p ∧ q = some p.flow) ∧ x.tick.now = x.now + 1 := by
  obtain ⟨q, h1, h2, h3, h4⟩ := adv_went h.away
  obtain ⟨a, b, _⟩ := away_pk x
  obtain ⟨l, m⟩ := away_last x
  refine ⟨q, fun c => ?_, fun e => ?_, fun e => ?_, ?_⟩
  · have := h1 c
    have e : sumR c x.away = sumR c x := by unfold sumR; rw [a, b]
    rw [e] at this; exact this
  · have := h2 e; rw [m] at this; exact this
  · rw [← l]; exact h3 (by rw [m]; exact e)
  · have : x.tick.now = x.away.now + 1 := h4
    rw [this, b]

/-- What a tick makes of each packet. -/
theorem tick_each {x : Ln} (h : Lnv x) {P Q : Pk → Prop} (hp : ∀ p ∈ x.pk, P p) (h1 : ∀ p, P p → Q p) (h2 : ∀ p, P p → El x.now p → Q (beg x.now p)) : ∀ p ∈ x.tick.pk, Q p := by
  rw [tick_adv]
  obtain ⟨a, b, _⟩ := away_pk x
  refine adv_cases h.away (P := fun y => ∀ p ∈ y.pk, Q p) ?_ ?_ ?_
  · intro _ _ _ _ _ _ _ _ _ _ p hp'
    exact h1 p (hp p (by rw [← a]; exact hp'))
  · intro _ _ p hp'
    exact h1 p (hp p (by rw [← a]; exact hp'))
  · intro l1 p l2 _ _ e he _ q hq
    rw [b] at he hq
    have hq' : q ∈ l1 ++ beg x.now p :: l2 := hq
    have mp : ∀ z ∈ l1 ++ p :: l2, P z := fun z hz => hp z (by rw [← a, e]; exact hz)
    rcases mem_beg hq' with rfl | hq'
    · exact h2 p (mp p (by simp)) he
    · exact h1 q (mp q hq')
/-- A packet stays, or begins. -/
theorem tick_some {x : Ln} (h : Lnv x) {P Q : Pk → Prop} (hp : ∃ p ∈ x.pk, P p) (h1 : ∀ p, P p → Q p) (h2 : ∀ p, P p → El x.now p → Q (beg x.now p)) : ∃ p ∈ x.tick.pk, Q p := by
  rw [tick_adv]
  obtain ⟨a, b, _⟩ := away_pk x
  obtain ⟨z, hz, pz⟩ := hp
  refine adv_cases h.away (P := fun y => ∃ p ∈ y.pk, Q p) ?_ ?_ ?_
  · intro _ _ _ _ _ _ _ _ _ _
    exact ⟨z, by show z ∈ x.away.pk; rw [a]; exact hz, h1 z pz⟩
  · intro _ _
    exact ⟨z, by show z ∈ x.away.pk; rw [a]; exact hz, h1 z pz⟩
  · intro l1 p l2 _ _ e he _
    rw [b] at he ⊢
    rw [a] at e
    rw [e] at hz
    rcases List.mem_append.1 hz with hz | hz
    · exact ⟨z, by simp [hz], h1 z pz⟩
    · rcases List.mem_cons.1 hz with rfl | hz
      · exact ⟨beg x.now z, by simp, h2 z pz he⟩
      · exact ⟨z, by simp [hz], h1 z pz⟩

/-- What has begun is known. -/
def Stb (x : Ln) : Prop := ∀ (i : Nat) p, x.pk[i]? = some p → 0 ≤ p.start → i ∈ x.began
theorem stb_new (l : List Fl) : Stb (Ln.new l) := fun i p h => by
  have : ([] : List Pk)[i]? = some p := h
  simp at this
theorem Stb.push {x : Ln} (h : Stb x) {p : Pk} (hs : p.start < 0) : Stb { x with pk := x.pk ++ [p] } := fun i q hq h0 => by
  rcases get_snoc hq with g | ⟨_, rfl⟩
  · exact h i q g h0
  · omega
theorem stb_send {x : Ln} (h : Stb x) (k size : Int) : Stb (x.send k size).2 := send_cases (P := Stb) h fun _ _ _ _ => h.push (show (-1 : Int) < 0 by decide)
theorem stb_other {x : Ln} (h : Stb x) (size : Int) : Stb (x.other size).2 := other_cases (P := Stb) h fun _ => h.push (show (-1 : Int) < 0 by decide)
theorem stb_away {x : Ln} (h : Stb x) : Stb x.away := by
  obtain ⟨a, _, c⟩ := away_pk x
  unfold Stb; rw [a, c]; exact h
theorem stb_tick {x : Ln} (h : Lnv x) (s : Stb x) : Stb x.tick := by
  rw [tick_adv]
  have s' := stb_away s
  refine adv_cases h.away (P := Stb) (fun _ _ _ _ _ _ _ _ _ _ => s') (fun _ _ => s') ?_
  intro l1 p l2 _ _ e _ _ i q hq h0
  have hq' : (l1 ++ beg x.away.now p :: l2)[i]? = some q := hq
  show i ∈ x.away.began ++ [l1.length]
  by_cases g : i = l1.length
  · simp [g]
  · refine List.mem_append.2 (.inl (s' i q ?_ h0))
    rw [e]
    rcases Nat.lt_or_ge i l1.length with k | k
    · rw [List.getElem?_append_left k] at hq' ⊢; exact hq'
    · rw [List.getElem?_append_right k] at hq' ⊢
      obtain ⟨j, hj⟩ : ∃ j, i - l1.length = j + 1 := ⟨i - l1.length - 1, by omega⟩
      rw [hj] at hq' ⊢; exact hq'
theorem get_untold {pk pk' : List Pk} (e : pk'.map untold = pk.map untold) {i : Nat} {p : Pk} (h : pk'[i]? = some p) : ∃ q, pk[i]? = some q ∧ untold q = untold p := by
  have : (pk'.map untold)[i]? = some (untold p) := by rw [List.getElem?_map, h]; rfl
  rw [e, List.getElem?_map] at this
  exact Option.map_eq_some_iff.1 this
theorem stb_gone {x : Ln} (s : Stb x) : Stb x.gone.2 := fun i p hp h0 => by
  obtain ⟨q, hq, e⟩ := get_untold (gone_untold x.now x.began x.pk) hp
  refine s i q hq ?_
  have : (untold q).start = (untold p).start := by rw [e]
  rw [show q.start = p.start from this]; exact h0
theorem stb_torn {x : Ln} (s : Stb x) (fl : List Stt) (k : Int) : Stb { x with fl := fl, pk := x.pk.map (drp x.now k) } := fun i p hp h0 => by
  have hp' : (x.pk.map (drp x.now k))[i]? = some p := hp
  rw [List.getElem?_map] at hp'
  obtain ⟨q, hq, rfl⟩ := Option.map_eq_some_iff.1 hp'
  exact s i q hq (by rw [(same_drp (now := x.now) k).st] at h0; exact h0)
theorem stb_setup {x : Ln} (s : Stb x) (f : Fl) : Stb (x.setup f).2 := setup_cases (P := Stb) s fun _ _ => s
theorem stb_teardown {x : Ln} (s : Stb x) (k : Int) : Stb (x.teardown k).2 := teardown_cases (P := Stb) s fun _ _ _ => stb_away (stb_torn s _ k)

/-- What was told is in the list. -/
def Tg (x : Ln) (G : List Pk) : Prop := ∀ p ∈ x.pk, p.told = true → 0 ≤ p.start ∧ ∃ g ∈ G, untold g = untold p
theorem tg_tick {x : Ln} {G : List Pk} (h : Lnv x) (t : Tg x G) : Tg x.tick G :=
  tick_each h (P := fun p => p.told = true → 0 ≤ p.start ∧ ∃ g ∈ G, untold g = untold p) t (fun _ => id) fun p hp he ht => by
    have := (hp ht).1
    have := he.1
    omega
theorem tg_gone_aux (now : Int) : ∀ (l : List Nat) (pk : List Pk) (G : List Pk), (∀ i ∈ l, ∃ p, pk[i]? = some p ∧ 0 ≤ p.start) → (∀ p ∈ pk, p.told = true → 0 ≤ p.start ∧ ∃ g ∈ G, untold g = untold p) → ∀ p ∈ (goneL now l pk).2, p.told = true → 0 ≤ p.start ∧ ∃ g ∈ G ++ (goneL now l pk).1, untold g = untold p
  | [], _, G, _, h, p, hp, ht => by
    obtain ⟨a, g, hg, e⟩ := h p hp ht
    exact ⟨a, g, by simp [goneL, hg], e⟩
  | i :: l, pk, G, hb, h, p, hp, ht => by
    have hb' : ∀ j ∈ l, ∃ p, pk[j]? = some p ∧ 0 ≤ p.start := fun j hj => hb j (List.mem_cons_of_mem _ hj)
    obtain ⟨z, hz, z0⟩ := hb i (List.mem_cons_self ..)
    have hd : goneL now (i :: l) pk = if fresh1 now z = true then (z :: (goneL now l (pk.modify i tell)).1, (goneL now l (pk.modify i tell)).2) else goneL now l pk := by
      show (match pk[i]? with
        | none => goneL now l pk
        | some p => if fresh1 now p = true then (p :: (goneL now l (pk.modify i tell)).1, (goneL now l (pk.modify i tell)).2) else goneL now l pk) = _
      rw [hz]
    rw [hd] at hp ⊢
    by_cases hf : fresh1 now z = true
    · rw [if_pos hf] at hp ⊢
      have hb2 : ∀ j ∈ l, ∃ p, (pk.modify i tell)[j]? = some p ∧ 0 ≤ p.start := fun j hj => by
        obtain ⟨y, hy, y0⟩ := hb' j hj
        have e : ((pk.modify i tell).map untold)[j]? = some (untold y) := by rw [untold_modify, List.getElem?_map, hy]; rfl
        rw [List.getElem?_map] at e
        obtain ⟨v, hv, ev⟩ := Option.map_eq_some_iff.1 e
        refine ⟨v, hv, ?_⟩
        have : (untold v).start = (untold y).start := by rw [ev]
        rw [show v.start = y.start from this]; exact y0
      have h2 : ∀ q ∈ pk.modify i tell, q.told = true → 0 ≤ q.start ∧ ∃ g ∈ G ++ [z], untold g = untold q := fun q hq hqt => by
        obtain ⟨j, hj⟩ := List.mem_iff_getElem?.1 hq
        by_cases e : i = j
        · subst e
          rw [modify_eq, hz] at hj
          obtain rfl : tell z = q := Option.some.inj hj
          exact ⟨z0, z, by simp, rfl⟩
        · rw [modify_ne _ _ e] at hj
          obtain ⟨a, g, hg, eg⟩ := h q (List.mem_of_getElem? hj) hqt
          exact ⟨a, g, by simp [hg], eg⟩
      obtain ⟨a, g, hg, e⟩ := tg_gone_aux now l (pk.modify i tell) (G ++ [z]) hb2 h2 p hp ht
      refine ⟨a, g, ?_, e⟩
      simpa using hg
    · rw [if_neg hf] at hp ⊢
      exact tg_gone_aux now l pk G hb' h p hp ht
theorem tg_gone {x : Ln} {G : List Pk} (h : Lnv x) (t : Tg x G) : Tg x.gone.2 (G ++ x.gone.1) := tg_gone_aux x.now x.began x.pk G h.bg t
theorem told_stays (now : Int) : ∀ (l : List Nat) (pk : List Pk) (i : Nat) (p : Pk), pk[i]? = some p → p.told = true → ∃ q, (goneL now l pk).2[i]? = some q ∧ q.told = true
  | [], _, i, p, h, ht => ⟨p, h, ht⟩
  | j :: l, pk, i, p, h, ht => by
    unfold goneL
    split
    · exact told_stays now l pk i p h ht
    · split
      · show ∃ q, (goneL now l (pk.modify j tell)).2[i]? = some q ∧ q.told = true
        by_cases e : j = i
        · subst e
          exact told_stays now l _ j (tell p) (by rw [modify_eq, h]; rfl) rfl
        · exact told_stays now l _ i p (by rw [modify_ne _ _ e]; exact h) ht
      · exact told_stays now l pk i p h ht
/-- Behind Gone all that has ended is told. -/
theorem told_all (now : Int) : ∀ (l : List Nat) (pk : List Pk) (i : Nat) (p : Pk), i ∈ l → pk[i]? = some p → p.start + p.size ≤ now → ∃ q, (goneL now l pk).2[i]? = some q ∧ q.told = true
  | [], _, i, p, hi, _, _ => by cases hi
  | j :: l, pk, i, p, hi, h, hd => by
    by_cases e : j = i
    · subst e
      unfold goneL
      rw [h]
      simp only
      split
      · show ∃ q, (goneL now l (pk.modify j tell)).2[j]? = some q ∧ q.told = true
        exact told_stays now l _ j (tell p) (by rw [modify_eq, h]; rfl) rfl
      · rename_i hf
        refine told_stays now l pk j p h ?_
        unfold fresh1 at hf
        cases ht : p.told with
        | true => rfl
        | false => exact absurd (by rw [ht]; simpa using hd) hf
    · have hi' : i ∈ l := by
        rcases List.mem_cons.1 hi with g | g
        · exact absurd g.symm e
        · exact g
      unfold goneL
      split
      · exact told_all now l pk i p hi' h hd
      · split
        · show ∃ q, (goneL now l (pk.modify j tell)).2[i]? = some q ∧ q.told = true
          exact told_all now l _ i p hi' (by rw [modify_ne _ _ e]; exact h) hd
        · exact told_all now l pk i p hi' h hd
/-- Behind Gone all that has ended is in the list. -/
theorem gone_all {x : Ln} {G : List Pk} (h : Lnv x) (s : Stb x) (t : Tg x G) : ∀ p ∈ x.gone.2.pk, 0 ≤ p.start → p.start + p.size ≤ x.now → ∃ g ∈ G ++ x.gone.1, untold g = untold p := by
  intro p hp h0 h1
  obtain ⟨i, hi⟩ := List.mem_iff_getElem?.1 hp
  obtain ⟨q, hq, e⟩ := get_untold (gone_untold x.now x.began x.pk) hi
  have e1 : q.start = p.start := by have : (untold q).start = (untold p).start := by rw [e]
                                    exact this
  have e2 : q.size = p.size := by have : (untold q).size = (untold p).size := by rw [e]
                                  exact this
  obtain ⟨z, hz, zt⟩ := told_all x.now x.began x.pk i q (s i q hq (by omega)) hq (by omega)
  obtain rfl : z = p := Option.some.inj (hz.symm.trans hi)
  exact (tg_gone h t z hp zt).2
end Go.Proofs.YtcnmajndackohaaGreatDoor
