import Derived.Test.YtcnmajndackohaaGreatDoorMg14
import Derived.Deep.LoopGhost
import Derived.Test.YtcnmajndackohaaGreatDoorMg10
/-
  What the program's release does: the packets that are ready at this tick go into the queue.
-/
namespace Go.Proofs.YtcnmajndackohaaGreatDoor
open Go.RowKit
theorem FS.set14 (f : FS) (v : Value) (L : List Pk) : f.cs.setIfInBounds 14 v = { f with vh := v, L := L }.cs := rfl
/-- What is held back of a flow, written. -/
theorem PM.setHeld {w : World} {P : Nat} {s : PS} (h : PM w P s) {k : Nat} {f : FS} (hf : s.fs k = some f) {v : Value} {L : List Pk} (hv : Ow w s.o (8 + 2 * k) 118 4 v L.length (hcells L)) : PTo w P s (w.setCell ⟨f.a, 14, none⟩ v) { s with fs := upd s.fs k { f with vh := v, L := L } } := by
  have hfm := h.fl k f hf
  have hO : Only (fun i => i = f.a) w (w.setCell ⟨f.a, 14, none⟩ v) := only_set w f.a 14 _
  have hq : ∀ i, i = f.a → s.o i = 7 + 2 * k := fun i e => by rw [e]; exact hfm.ob
  have hI := hfm.blk.set 14 v
  rw [FS.set14 f v L] at hI
  refine ⟨h.flowTo hf (hO.mono fun i _ e => .inl (hq i e)) (fun _ _ => rfl) (fun i hi => h.free i (Nat.le_trans hO.size hi)) ⟨hI, hfm.ob, ?_⟩ rfl, hO.mono fun i _ e => by rw [hq i e]; omega, fun _ _ => rfl, rfl⟩
  exact hv.keep hO (fun i e => by rw [hq i e]; omega) (fun _ _ => rfl)
/-- The entry of a packet. -/
def enP (p : Pk) (d : Int) : En := ⟨p.flow, p.seq, p.size, toTick p.ready, toTick p.ready + d⟩
/-- One packet goes into the queue. -/
def Rel1 (s s' : PS) : Prop := ∃ (k : Nat) (f : FS) (p : Pk) (tl : List Pk) (v vh : Value) (o : Whose) (H : List En), s.fs k = some f ∧ f.L = p :: tl ∧ toTick p.ready ≤ s.now ∧ HeapN H H.length ∧ H.Perm (enP p f.f.d :: s.H) ∧
  s' = { s with H := H, vr := v, o := o, fs := upd s.fs k { f with vh := vh, L := tl } }
/-- What release asks of a line. -/
structure Rgo (s : PS) : Prop where
  h : s.H.length ≤ 4000000
  n0 : 0 ≤ s.now
  n1 : s.now ≤ 1000000000000
  d : ∀ k f, s.fs k = some f → 0 ≤ f.f.d ∧ f.f.d ≤ 100
  rd : ∀ k f, s.fs k = some f → ∀ p ∈ f.L, 0 ≤ toTick p.ready
  ll : ∀ k f, s.fs k = some f → f.L.length ≤ 1000000000
theorem FM.hlLen {w : World} {o : Whose} {k : Nat} {f : FS} (h : FM w o k f) : ∃ a c, f.vh = .slice a f.L.length c := by
  rcases h.hl.1.2 with ⟨e1, e2⟩ | ⟨g, off, cap, cur, e1, _⟩
  · exact ⟨none, 0, by rw [e1, e2]⟩
  · exact ⟨_, _, e1⟩
/-- What of a line stays. -/
structure Stay (s s' : PS) : Prop where
  m : s'.M = s.M
  n : s'.now = s.now
  a : adrs s'.fs = adrs s.fs
theorem Stay.refl (s : PS) : Stay s s := ⟨rfl, rfl, rfl⟩
theorem Stay.trans {a b c : PS} (h : Stay a b) (k : Stay b c) : Stay a c := ⟨k.m.trans h.m, k.n.trans h.n, k.a.trans h.a⟩
/-- Behind the head's being taken out of what is held back, and lying in a block of its own. -/
theorem PTo.taken {w W : World} {P : Nat} {s t : PS} (h : PTo w P s W t) {k : Nat} {f : FS} (hf : t.fs k = some f) {tl : List Pk} {vt : Value} (hv : World.offRow W 118 4 vt tl.length (hcells tl)) (hg : ∀ g, vt.ownBlock = some g → f.vh.ownBlock = some g) (cs : Array Value) :
    PTo w P s ((W.setCell ⟨f.a, 14, none⟩ vt).alloc (.cells cs 118)) { t with fs := upd t.fs k { f with vh := vt, L := tl } } ∧ Only (fun i => i = f.a) W ((W.setCell ⟨f.a, 14, none⟩ vt).alloc (.cells cs 118)) :=
  ⟨(h.trans (h.pm.setHeld hf ⟨hv, fun g hg' => (h.pm.fl k f hf).hl.2 g (hg g hg')⟩)).below (bel_one _), (only_set _ _ _ _).alloc _⟩
theorem World.offRow.drewN {w : World} {t : TypeId} {size n : Nat} {v : Value} {xs : List Value} (h : World.offRow w t size v n xs) (m : Nat) : World.offRow (w.drewN m) t size v n xs := h
theorem RangeF.drewN {w : World} {M r : Nat} {m : Nat → Option Nat} {left : Nat → Bool} (h : RangeF w M r m left) (n : Nat) : RangeF (w.drewN n) M r m left := (h.of_blocks (w' := w.drewN n) rfl rfl).1
set_option maxRecDepth 100000 in
set_option maxHeartbeats 4000000 in
theorem prelease (w : World) (P : Nat) (s : PS) (h : PM w P s) (J : PS → Prop) (hJ0 : J s) (hJ : ∀ a b, J a → Rel1 a b → J b) (hJg : ∀ a, J a → Rgo a) :
    Calls Tryz.prog 90 #[.pointer (some ⟨s.Q, 0, none⟩)] w fun e w' => e = .returned (.tuple #[]) ∧ ∃ s', J s' ∧ PTo w P s w' s' ∧ Stay s s' ∧ ∀ k f p tl, s'.fs k = some f → f.L = p :: tl → s.now < toTick p.ready := by
  have HH := hide h
  have HJ0 := hide hJ0
  have HJ := hide hJ
  have HJg := hide hJg
  have c1 := h.c1
  have HM1 := hide h.map
  clear h hJ0 hJ hJg
  go_enter Tryz.func90, Tryz.ntmps90
  go_wp2_with (at_range; refine wpList_range_F _ rfl _ rfl rfl (unhide HM1) ?_; intro w0 hrg0 hb0 hs0)
  go_frame
  have HB0 := hide hb0
  have HR0 := hide hrg0
  clear hrg0 hb0 hs0 c1 HM1
  go_loopw [3] (fun _ wr => ∃ (left : Nat → Bool) (t : PS), J t ∧ PTo w P s wr t ∧ Stay s t ∧ t.o w.heap.size = 0 ∧ RangeF wr s.M w.heap.size (adrs s.fs) left ∧ ∀ k f p tl, t.fs k = some f → left k = false → f.L = p :: tl → s.now < toTick p.ready) (fun _ wr => wr.rangeLeft s.M w.heap.size)
  case atStart =>
    refine ⟨_, s, unhide HJ0, (PTo.refl (unhide HH)).below (unhide HB0), Stay.refl s, (unhide HH).free _ (Nat.le_refl _), unhide HR0, fun k f p tl hk hl => ?_⟩
    simp [adrs, hk] at hl
  case round =>
    obtain ⟨left, t, hJt, hT, hS, hr0, hR, hD⟩ := hrel
    have HR00 := hide hr0
    have HJt := hide hJt
    have HT := hide hT
    have HS := hide hS
    have HR := hide hR
    have HD := hide hD
    clear hJt hT hS hR hD hr0
    go_wp2_with (at_next; refine wpList_next_F _ rfl _ rfl rfl (unhide HR) ?_ ?_)
    · intro hl0
      go_wp2_with fail
      go_end0
      exact ⟨rfl, t, unhide HJt, unhide HT, unhide HS, fun k f p tl hk hL => unhide HD k f p tl hk (hl0 k) hL⟩
    · intro k b w1 hlk hmk hR1 hlt hO1 hsz hen
      have hfk : ∃ f, t.fs k = some f ∧ f.a = b := by
        have e := congrFun (unhide HS).a k
        rw [hmk] at e
        unfold adrs at e
        exact Option.map_eq_some_iff.1 e
      obtain ⟨f0, hf0, rfl⟩ := hfk
      have hT1 := (unhide HT).keepNew hO1 (fun i e => by subst e; exact ⟨unhide HR00, Nat.le_refl _⟩)
      have HT1 := hide hT1
      have HR1 := hide hR1
      have HLt := hide hlt
      have HF0 := hide hf0
      have HEn := hide hen
      clear hT1 hR1 hlt hf0 hO1 hsz hmk HT HR HR0
      go_wp2_with fail
      clear hen
      go_loopg [4] (f0.L.length + 1) (fun n _ wr2 => ∃ (t2 : PS) (f2 : FS), J t2 ∧ PTo w P s wr2 t2 ∧ Stay s t2 ∧ t2.o w.heap.size = 0 ∧ RangeF wr2 s.M w.heap.size (adrs s.fs) (fun j => left j && !decide (j = k)) ∧ wr2.rangeLeft s.M w.heap.size = w1.rangeLeft s.M w.heap.size ∧ t2.fs k = some f2 ∧ f2.a = f0.a ∧ f2.L.length < n ∧
        ∀ j f p tl, t2.fs j = some f → ¬ j = k → left j = false → f.L = p :: tl → s.now < toTick p.ready)
      case atStart => exact ⟨t, f0, unhide HJt, unhide HT1, unhide HS, unhide HR00, unhide HR1, rfl, unhide HF0, rfl, by omega, fun j f p tl h1 _ h2 h3 => unhide HD j f p tl h1 h2 h3⟩
      case round =>
        obtain ⟨t2, f2, hJ2, hT2, hS2, hr2, hR2, hL2, hf2, ha2, hn2, hD2⟩ := hrel
        have hfm := hT2.pm.fl k f2 hf2
        have c0 : wr.cell? ⟨s.Q, 0, none⟩ = some (.int .i64 s.now) := by rw [← hT2.q, ← hS2.n]; exact hT2.pm.c0
        obtain ⟨av, cv, hvh⟩ := hfm.hlLen
        have c14 := hfm.c14
        rw [ha2, hvh] at c14
        have HJ2 := hide hJ2
        have HT2 := hide hT2
        have HS2 := hide hS2
        have HR2 := hide hR2
        have HL2 := hide hL2
        have HF2 := hide hf2
        have HA2 := hide ha2
        have HN2 := hide hn2
        have HD2 := hide hD2
        have Hr2 := hide hr2
        have HFm := hide hfm
        have HOut := hide (show (∀ p tl, f2.L = p :: tl → s.now < toTick p.ready) → ∀ n, ∃ (left : Nat → Bool) (t : PS), J t ∧ PTo w P s (wr.drewN n) t ∧ Stay s t ∧ t.o w.heap.size = 0 ∧ RangeF (wr.drewN n) s.M w.heap.size (adrs s.fs) left ∧ ∀ k f p tl, t.fs k = some f → left k = false → f.L = p :: tl → s.now < toTick p.ready from fun hh n => by
          refine ⟨_, t2, hJ2, hT2.below (drewN_bel (Below.refl _ _) n), hS2, hr2, hR2.drewN n, fun j f p tl h1 h2 h3 => ?_⟩
          by_cases hjk : j = k
          · subst hjk
            rw [hf2] at h1
            obtain rfl := Option.some.inj h1
            exact hh p tl h3
          · refine hD2 j f p tl h1 hjk ?_ h3
            simpa [hjk] using h2)
        cases hL : f2.L with
        | nil =>
          rw [hL] at c14
          have HO := hide (unhide HOut (fun p tl e => by rw [hL] at e; cases e))
          clear hJ2 hT2 hS2 hr2 hR2 hL2 hf2 ha2 hn2 hD2 hfm hvh hL HOut
          go_wp2_with fail
          go_quiet (fail)
          go_wp2_with fail
          go_roundw
          case rel => exact unhide HO _
          case measure => exact Nat.lt_of_le_of_lt (Nat.le_of_eq (unhide HL2)) (unhide HLt)
        | cons p tl =>
          rw [hL] at c14 hvh
          have hhl := hfm.hl.1
          rw [hL] at hhl
          obtain ⟨g, off, cap, hv, hg, hc1, hc2, hcell⟩ := off_form (n := tl.length) hhl
          rw [← hvh, hv] at c14
          have d3 := hcell 3 _ rfl
          have hln : (0 : Int) < (tl.length : Int) + 1 := by omega
          by_cases hle : toTick p.ready ≤ s.now
          · have hRg := unhide HJg t2 hJ2
            have hrd0 := hRg.rd k f2 hf2 p (by rw [hL]; exact List.mem_cons_self ..)
            have hd0 := hRg.d k f2 hf2
            have hHl := hRg.h
            have hHn := hRg.n1
            have hnow := hS2.n
            rw [hv] at hhl
            obtain ⟨vt, HVT, ht1, ht2⟩ : ∃ vt, Hid (vt = tlV g off 4 tl.length cap) ∧ World.offRow wr 118 4 vt tl.length (hcells tl) ∧ ∀ g', vt.ownBlock = some g' → g' = g := tail_form (hd := hcs p) hhl rfl
            have d0 := hcell 0 _ rfl
            have d1 := hcell 1 _ rfl
            have d2 := hcell 2 _ rfl
            rw [Nat.add_zero] at d0
            have HTk := hide (fun nq => ((unhide HT2).below (drewN_bel (Below.refl _ _) nq)).taken (unhide HF2) (tl := tl) (vt := vt) (World.offRow.drewN ht1 nq) (fun g' hg' => by rw [hv, ht2 g' hg']; rfl) #[.int .i64 p.flow, .int .i64 p.seq, .int .i64 p.size, .int .i64 (toTick p.ready)])
            have HR3 := hide (fun nq => hR2.drewN nq)
            have HLe := hide hle
            have HLL := hide hL
            have HTl := hide (show tl.length < gk - 1 ∨ tl.length + 1 < gk from .inr (by rw [hL] at hn2; simpa using hn2))
            have cA : ∀ (b j : Nat), b < wr.heap.size → ∀ nq ob, ((wr.drewN nq).alloc ob).cell? ⟨b, j, none⟩ = wr.cell? ⟨b, j, none⟩ := fun b j hb nq ob => World.cell?_alloc_past ob b j hb
            have hab : f0.a < wr.heap.size := by rw [← ha2]; exact hfm.blk.lt
            have z14 : wr.frozen? ⟨f0.a, 14, none⟩ = false := by rw [← ha2]; exact hfm.blk.frozen 14
            have hcap : (tl.length : Int) + 1 ≤ (cap : Int) := by omega
            unfold maxLen at hc2
            generalize hrdy : toTick p.ready = rdy at *
            have HRdy := hide hrdy
            clear hJ2 hT2 hS2 hr2 hR2 hL2 hf2 ha2 hn2 hD2 hfm hvh hL HOut hv hhl hcell hc1 ht1 ht2 hRg hrdy
            go_wp2_with fail
            go_quiet (fail)
            have c14A := fun ob => (cA f0.a 14 hab nq ob).trans c14
            have z14A : (wr.drewN nq).frozen? ⟨f0.a, 14, none⟩ = false := z14
            have d0A : (wr.drewN nq).cell? ⟨g, off, none⟩ = some (.int .i64 p.flow) := d0
            have d1A : (wr.drewN nq).cell? ⟨g, off + 1, none⟩ = some (.int .i64 p.seq) := d1
            have d2A : (wr.drewN nq).cell? ⟨g, off + 2, none⟩ = some (.int .i64 p.size) := d2
            have d3A : (wr.drewN nq).cell? ⟨g, off + 3, none⟩ = some (.int .i64 rdy) := d3
            have c14B : (wr.drewN nq).cell? ⟨f0.a, 14, none⟩ = some (.slice (some ⟨g, off, none⟩) (tl.length + 1) cap) := c14
            have HX := hide (unhide HTk nq)
            have HRX := hide (unhide HR3 nq)
            have HLX := hide (show (wr.drewN nq).rangeLeft s.M w.heap.size = w1.rangeLeft s.M w.heap.size from unhide HL2)
            have habX : f0.a < (wr.drewN nq).heap.size := hab
            have HFr := hide (show t2.o (wr.drewN nq).heap.size = 0 from (unhide HT2).pm.free _ (Nat.le_refl _))
            clear d0 d1 d2 d3 c14 z14 cA HTk HR3
            generalize wr.drewN nq = W1 at *
            by_cases hcp : cap = 1
            · have htv : vt = .slice (some ⟨g, off, none⟩) tl.length 0 := by rw [unhide HVT, tlV, if_pos hcp]
              subst htv
              subst hcp
              go_wp2_with fail
              have hne : f2.a = f0.a := unhide HA2
              have hXT := (unhide HX).1
              have hXO := (unhide HX).2
              rw [hne] at hXT hXO
              have hNew := new_behind W1 ⟨f0.a, 14, none⟩ (.slice (some ⟨g, off, none⟩) tl.length 0) (.cells #[.int .i64 p.flow, .int .i64 p.seq, .int .i64 p.size, .int .i64 rdy] 118)
              have HXT := hide hXT
              have HXO := hide hXO
              have HNew := hide hNew
              clear hne hXT hXO hNew HX c14A c14B z14A d0A d1A d2A d3A
              generalize ((W1.setCell ⟨f0.a, 14, none⟩ (.slice (some ⟨g, off, none⟩) tl.length 0)).alloc (.cells #[.int .i64 p.flow, .int .i64 p.seq, .int .i64 p.size, .int .i64 rdy] 118)) = X at *
              have hq := (unhide HT2).q
              have hPX := (unhide HXT).pm
              have hfX := hPX.fl k _ (upd_same _ _ _)
              have hSo : ∀ w', Only (fun i => t2.o i = 2 ∨ t2.o i = 4) X w' → w'.cell? ⟨W1.heap.size, 0, none⟩ = some (.int .i64 p.flow) ∧ w'.cell? ⟨W1.heap.size, 1, none⟩ = some (.int .i64 p.seq) ∧ w'.cell? ⟨W1.heap.size, 2, none⟩ = some (.int .i64 p.size) ∧ w'.cell? ⟨W1.heap.size, 3, none⟩ = some (.int .i64 rdy) ∧ w'.cell? ⟨f0.a, 4, none⟩ = some (.int .i64 f2.f.d) := fun w' ho => by
                have hN : Is w' W1.heap.size 118 #[.int .i64 p.flow, .int .i64 p.seq, .int .i64 p.size, .int .i64 rdy] := Is.only (show Is X W1.heap.size 118 _ from unhide HNew) ho (fun e => by rw [unhide HFr] at e; omega)
                have hF := hfX.blk.only ho (fun e => by have := hfX.ob; have e' : t2.o f0.a = 2 ∨ t2.o f0.a = 4 := e; have o' : t2.o f0.a = 7 + 2 * k := this; omega)
                exact ⟨hN.cell (j := 0) rfl, hN.cell (j := 1) rfl, hN.cell (j := 2) rfl, hN.cell (j := 3) rfl, hF.cell (j := 4) rfl⟩
              have hPD := hPX.below (Below.refl _ _).drew
              have HPush := hide (hpush_any t2.Q 3 t2.H (enP p f2.f.d) X.drew 116 _ t2.vr hPD.inn rfl hPD.rd hPD.hp (fun e => by have := hPX.ord _ e; have o2 := hPX.oQ; have e1 : t2.o t2.Q = 4 := this; have e2 : t2.o t2.Q = 2 := o2; omega) hHl)
              have HQu := hide (fun (w5 : World) (v' : Value) (H' : List En) => hPD.queue (w' := w5) (v' := v') (H' := H'))
              have HOrd := hide (show ∀ i, (i = s.Q ∨ t2.vr.ownBlock = some i) → t2.o i = 2 ∨ t2.o i = 4 from fun i e => by
                rcases e with e | e
                · left; rw [e, ← hq]; exact hPX.oQ
                · right; exact hPX.ord i e)
              have hrw : IntKind.i64.wrap (rdy + f2.f.d) = rdy + f2.f.d := by go_arith
              have HSo := hide hSo
              have HMt := hide (show t2.o s.M = 3 from by have := hPX.oM; have e : t2.M = s.M := (unhide HS2).m; rw [← e]; exact this)
              have HfO := hide (show t2.o f0.a = 7 + 2 * k from hfX.ob)
              rw [hq] at HPush
              unfold qif enP ecs at HPush
              rw [unhide HRdy] at HPush
              have HQ := hide hq
              clear hq hPX hfX hSo hPD
              go_region_held3 (fun w' : World => w'.cell? ⟨W1.heap.size, 0, none⟩ = some (.int .i64 p.flow) ∧ w'.cell? ⟨W1.heap.size, 1, none⟩ = some (.int .i64 p.seq) ∧ w'.cell? ⟨W1.heap.size, 2, none⟩ = some (.int .i64 p.size) ∧ w'.cell? ⟨W1.heap.size, 3, none⟩ = some (.int .i64 rdy) ∧ w'.cell? ⟨f0.a, 4, none⟩ = some (.int .i64 f2.f.d))
                (first | exact unhide HSo _ (Only.of_below (Below.refl _ _).drew) | exact unhide HSo _ (by assumption))
                (first | (go_at_call 116; refine (unhide HPush).mono ?_; rintro e w5 ⟨rfl, v', H', hI5, hQ5, hH5, hP5, hg5, hO5⟩; have hOS : Only (fun i => t2.o i = 2 ∨ t2.o i = 4) X w5 := (Only.of_below (Below.refl _ _).drew).trans (hO5.mono fun i _ e => unhide HOrd i e) (fun _ _ h => h)))
              all_goals
                have hT5 := unhide HQu w5 v' H' (by rw [unhide HQ]; exact hI5) hQ5 hH5 (fun g' hg' => by
                  obtain ⟨g2, e1, e2⟩ := hg5
                  rw [e1] at hg'
                  obtain rfl := Option.some.inj hg'
                  exact e2) (by rw [unhide HQ]; exact hO5)
                have HT6 := hide (((unhide HXT).below (Below.refl _ _).drew).trans hT5)
                have hrl : w.heap.size < W1.heap.size := (unhide HRX).lt
                have hxs : W1.heap.size ≤ X.heap.size := (unhide HXO).size
                have hR5 := (unhide HRX).only (unhide HXO) (fun e => by have e1 := unhide HMt; rw [e, unhide HfO] at e1; omega) (fun e => by have e1 := unhide Hr2; rw [e, unhide HfO] at e1; omega)
                have hR6 := hR5.1.only hOS (fun e => by rw [unhide HMt] at e; omega) (fun e => by rw [unhide Hr2] at e; omega)
                have HR6 := hide hR6.1
                have HL6 := hide (hR6.2.trans (hR5.2.trans (unhide HLX)))
                have HJ6 := hide (show J { t2 with fs := upd t2.fs k { f2 with a := f0.a, vh := .slice (some ⟨g, off, none⟩) tl.length 0, L := tl }, vr := v', H := H', o := t2.o.give X.drew.heap.size w5.heap.size 4 } from
                  unhide HJ t2 _ (unhide HJ2) ⟨k, f2, p, tl, v', .slice (some ⟨g, off, none⟩) tl.length 0, t2.o.give X.drew.heap.size w5.heap.size 4, H', unhide HF2, unhide HLL, by rw [unhide HRdy, (unhide HS2).n]; exact unhide HLe, hH5, by unfold enP; rw [unhide HRdy]; exact hP5, by rw [unhide HA2]⟩)
                have HO6 := hide (show (t2.o.give X.drew.heap.size w5.heap.size 4) w.heap.size = 0 from (give_old (show w.heap.size < X.drew.heap.size from Nat.lt_of_lt_of_le hrl hxs)).trans (unhide Hr2))
                clear hI5 hQ5 hH5 hP5 hg5 hO5 hOS hT5 hR5 hR6 HQu HPush
                go_wp2_with fail
                go_roundg (tl.length + 1)
                case measure => have := unhide HTl; omega
                case rel =>
                  refine ⟨_, _, unhide HJ6, unhide HT6, (unhide HS2).trans ⟨rfl, rfl, adrs_upd (unhide HF2) (unhide HA2).symm⟩, unhide HO6, unhide HR6, unhide HL6, upd_same _ _ _, rfl, Nat.lt_succ_self _, fun j f p' tl' h1 h2 h3 h4 => ?_⟩
                  exact unhide HD2 j f p' tl' ((upd_far t2.fs _ h2).symm.trans h1) h2 h3 h4
            · have htv : vt = .slice (some ⟨g, off + 4, none⟩) tl.length (cap - 1) := by rw [unhide HVT, tlV, if_neg hcp]
              subst htv
              go_wp2_with fail
              have hne : f2.a = f0.a := unhide HA2
              have hXT := (unhide HX).1
              have hXO := (unhide HX).2
              rw [hne] at hXT hXO
              have hNew := new_behind W1 ⟨f0.a, 14, none⟩ (.slice (some ⟨g, off + 4, none⟩) tl.length (cap - 1)) (.cells #[.int .i64 p.flow, .int .i64 p.seq, .int .i64 p.size, .int .i64 rdy] 118)
              have HXT := hide hXT
              have HXO := hide hXO
              have HNew := hide hNew
              clear hne hXT hXO hNew HX c14A c14B z14A d0A d1A d2A d3A
              generalize ((W1.setCell ⟨f0.a, 14, none⟩ (.slice (some ⟨g, off + 4, none⟩) tl.length (cap - 1))).alloc (.cells #[.int .i64 p.flow, .int .i64 p.seq, .int .i64 p.size, .int .i64 rdy] 118)) = X at *
              have hq := (unhide HT2).q
              have hPX := (unhide HXT).pm
              have hfX := hPX.fl k _ (upd_same _ _ _)
              have hSo : ∀ w', Only (fun i => t2.o i = 2 ∨ t2.o i = 4) X w' → w'.cell? ⟨W1.heap.size, 0, none⟩ = some (.int .i64 p.flow) ∧ w'.cell? ⟨W1.heap.size, 1, none⟩ = some (.int .i64 p.seq) ∧ w'.cell? ⟨W1.heap.size, 2, none⟩ = some (.int .i64 p.size) ∧ w'.cell? ⟨W1.heap.size, 3, none⟩ = some (.int .i64 rdy) ∧ w'.cell? ⟨f0.a, 4, none⟩ = some (.int .i64 f2.f.d) := fun w' ho => by
                have hN : Is w' W1.heap.size 118 #[.int .i64 p.flow, .int .i64 p.seq, .int .i64 p.size, .int .i64 rdy] := Is.only (show Is X W1.heap.size 118 _ from unhide HNew) ho (fun e => by rw [unhide HFr] at e; omega)
                have hF := hfX.blk.only ho (fun e => by have := hfX.ob; have e' : t2.o f0.a = 2 ∨ t2.o f0.a = 4 := e; have o' : t2.o f0.a = 7 + 2 * k := this; omega)
                exact ⟨hN.cell (j := 0) rfl, hN.cell (j := 1) rfl, hN.cell (j := 2) rfl, hN.cell (j := 3) rfl, hF.cell (j := 4) rfl⟩
              have hPD := hPX.below (Below.refl _ _).drew
              have HPush := hide (hpush_any t2.Q 3 t2.H (enP p f2.f.d) X.drew 116 _ t2.vr hPD.inn rfl hPD.rd hPD.hp (fun e => by have := hPX.ord _ e; have o2 := hPX.oQ; have e1 : t2.o t2.Q = 4 := this; have e2 : t2.o t2.Q = 2 := o2; omega) hHl)
              have HQu := hide (fun (w5 : World) (v' : Value) (H' : List En) => hPD.queue (w' := w5) (v' := v') (H' := H'))
              have HOrd := hide (show ∀ i, (i = s.Q ∨ t2.vr.ownBlock = some i) → t2.o i = 2 ∨ t2.o i = 4 from fun i e => by
                rcases e with e | e
                · left; rw [e, ← hq]; exact hPX.oQ
                · right; exact hPX.ord i e)
              have hrw : IntKind.i64.wrap (rdy + f2.f.d) = rdy + f2.f.d := by go_arith
              have HSo := hide hSo
              have HMt := hide (show t2.o s.M = 3 from by have := hPX.oM; have e : t2.M = s.M := (unhide HS2).m; rw [← e]; exact this)
              have HfO := hide (show t2.o f0.a = 7 + 2 * k from hfX.ob)
              rw [hq] at HPush
              unfold qif enP ecs at HPush
              rw [unhide HRdy] at HPush
              have HQ := hide hq
              clear hq hPX hfX hSo hPD
              go_region_held3 (fun w' : World => w'.cell? ⟨W1.heap.size, 0, none⟩ = some (.int .i64 p.flow) ∧ w'.cell? ⟨W1.heap.size, 1, none⟩ = some (.int .i64 p.seq) ∧ w'.cell? ⟨W1.heap.size, 2, none⟩ = some (.int .i64 p.size) ∧ w'.cell? ⟨W1.heap.size, 3, none⟩ = some (.int .i64 rdy) ∧ w'.cell? ⟨f0.a, 4, none⟩ = some (.int .i64 f2.f.d))
                (first | exact unhide HSo _ (Only.of_below (Below.refl _ _).drew) | exact unhide HSo _ (by assumption))
                (first | (go_at_call 116; refine (unhide HPush).mono ?_; rintro e w5 ⟨rfl, v', H', hI5, hQ5, hH5, hP5, hg5, hO5⟩; have hOS : Only (fun i => t2.o i = 2 ∨ t2.o i = 4) X w5 := (Only.of_below (Below.refl _ _).drew).trans (hO5.mono fun i _ e => unhide HOrd i e) (fun _ _ h => h)))
              all_goals
                have hT5 := unhide HQu w5 v' H' (by rw [unhide HQ]; exact hI5) hQ5 hH5 (fun g' hg' => by
                  obtain ⟨g2, e1, e2⟩ := hg5
                  rw [e1] at hg'
                  obtain rfl := Option.some.inj hg'
                  exact e2) (by rw [unhide HQ]; exact hO5)
                have HT6 := hide (((unhide HXT).below (Below.refl _ _).drew).trans hT5)
                have hrl : w.heap.size < W1.heap.size := (unhide HRX).lt
                have hxs : W1.heap.size ≤ X.heap.size := (unhide HXO).size
                have hR5 := (unhide HRX).only (unhide HXO) (fun e => by have e1 := unhide HMt; rw [e, unhide HfO] at e1; omega) (fun e => by have e1 := unhide Hr2; rw [e, unhide HfO] at e1; omega)
                have hR6 := hR5.1.only hOS (fun e => by rw [unhide HMt] at e; omega) (fun e => by rw [unhide Hr2] at e; omega)
                have HR6 := hide hR6.1
                have HL6 := hide (hR6.2.trans (hR5.2.trans (unhide HLX)))
                have HJ6 := hide (show J { t2 with fs := upd t2.fs k { f2 with a := f0.a, vh := .slice (some ⟨g, off + 4, none⟩) tl.length (cap - 1), L := tl }, vr := v', H := H', o := t2.o.give X.drew.heap.size w5.heap.size 4 } from
                  unhide HJ t2 _ (unhide HJ2) ⟨k, f2, p, tl, v', .slice (some ⟨g, off + 4, none⟩) tl.length (cap - 1), t2.o.give X.drew.heap.size w5.heap.size 4, H', unhide HF2, unhide HLL, by rw [unhide HRdy, (unhide HS2).n]; exact unhide HLe, hH5, by unfold enP; rw [unhide HRdy]; exact hP5, by rw [unhide HA2]⟩)
                have HO6 := hide (show (t2.o.give X.drew.heap.size w5.heap.size 4) w.heap.size = 0 from (give_old (show w.heap.size < X.drew.heap.size from Nat.lt_of_lt_of_le hrl hxs)).trans (unhide Hr2))
                clear hI5 hQ5 hH5 hP5 hg5 hO5 hOS hT5 hR5 hR6 HQu HPush
                go_wp2_with fail
                go_roundg (tl.length + 1)
                case measure => have := unhide HTl; omega
                case rel =>
                  refine ⟨_, _, unhide HJ6, unhide HT6, (unhide HS2).trans ⟨rfl, rfl, adrs_upd (unhide HF2) (unhide HA2).symm⟩, unhide HO6, unhide HR6, unhide HL6, upd_same _ _ _, rfl, Nat.lt_succ_self _, fun j f p' tl' h1 h2 h3 h4 => ?_⟩
                  exact unhide HD2 j f p' tl' ((upd_far t2.fs _ h2).symm.trans h1) h2 h3 h4
          · have HO := hide (unhide HOut (fun p' tl' e => by
              rw [hL] at e
              obtain ⟨rfl, rfl⟩ := List.cons.inj e
              omega))
            have hle2 : decide (toTick p.ready ≤ s.now) = false := by simpa using hle
            generalize toTick p.ready = rdy at *
            clear hJ2 hT2 hS2 hr2 hR2 hL2 hf2 ha2 hn2 hD2 hfm hvh hL HOut hv hhl hcell hc1 hc2
            go_wp2_with fail
            go_quiet (fail)
            go_wp2_with fail
            go_roundw
            case rel => exact unhide HO _
            case measure => exact Nat.lt_of_le_of_lt (Nat.le_of_eq (unhide HL2)) (unhide HLt)
end Go.Proofs.YtcnmajndackohaaGreatDoor
/-
  Plain: what the program's line is, held against the document's.
-/
namespace Go.Proofs.YtcnmajndackohaaGreatDoor
/-- Does it wait? -/
def wt (p : Pk) : Bool := decide (p.start < 0) && !p.dropped
def hdB (k r : Int) (p : Pk) : Bool := decide (p.flow = k) && wt p && decide (r ≤ p.seq)
def quB (rel : Int → Int) (p : Pk) : Bool := decide (0 ≤ p.flow) && wt p && decide (p.seq < rel p.flow)
def othB (p : Pk) : Bool := decide (p.flow = -1) && wt p
/-- What began and has not been told. -/
def untoldL (pk : List Pk) (l : List Nat) : List Pk := (l.filterMap fun i => pk[i]?).filter fun p => !p.told
theorem wt_iff (p : Pk) : wt p = true ↔ p.start < 0 ∧ p.dropped = false := by unfold wt; simp
theorem hdB_iff (k r : Int) (p : Pk) : hdB k r p = true ↔ p.flow = k ∧ wt p = true ∧ r ≤ p.seq := by unfold hdB; simp [and_assoc]
theorem quB_iff (rel : Int → Int) (p : Pk) : quB rel p = true ↔ 0 ≤ p.flow ∧ wt p = true ∧ p.seq < rel p.flow := by unfold quB; simp [and_assoc]
theorem othB_iff (p : Pk) : othB p = true ↔ p.flow = -1 ∧ wt p = true := by unfold othB; simp
/-- The program's line s is the document's line x; of each flow k the first rel k packets have gone into the queue. -/
structure Sim (x : Ln) (s : PS) (rel : Int → Int) : Prop where
  od : ∃ B, Od x B
  rr : ∀ p ∈ x.pk, quB rel p = true → 0 ≤ p.ready ∧ p.ready ≤ x.now
  lg : ∀ p ∈ x.pk, 0 ≤ p.flow → wt p = true → isOf x.fl p.flow = 1 → p.seq < rel p.flow
  aw : ∀ p ∈ x.pk, 0 ≤ p.flow → wt p = true → isOf x.fl p.flow < 2
  tl : ∀ p ∈ x.pk, p.told = true → 0 ≤ p.start ∧ p.start + p.size ≤ x.now
  rb : ∀ k : Int, rel k ≤ x.seqOf k
  is : ∀ st ∈ x.fl, st.is = 0 ∨ st.is = 1 ∨ st.is = 2
  now : s.now = x.now
  num : s.num = x.fl.length
  dom : ∀ k, (∃ f, s.fs k = some f) ↔ ∃ st, x.fl[k]? = some st ∧ st.is < 2
  val : ∀ k f, s.fs k = some f → ∃ st, x.fl[k]? = some st ∧ f.f = st.f ∧ f.torn = decide (st.is = 1) ∧ f.br = x.seqOf k ∧ f.wa = x.waiting k ∧ f.L = x.pk.filter (hdB k (rel k)) ∧ Gok st.f k x.pk f.g
  H : s.H.Perm ((x.pk.filter (quB rel)).map fun p => enP p (dueOf x.fl p.flow))
  O : s.O = x.pk.filter othB
  br : s.br = x.seqOf (-1)
  G : s.G = untoldL x.pk x.began
section
variable {x : Ln} {s : PS} {rel : Int → Int}
theorem Sim.inv (h : Sim x s rel) : Lnv x := h.od.choose_spec.inv
theorem Sim.sq (h : Sim x s rel) : ∀ l1 p l2, x.pk = l1 ++ p :: l2 → p.seq = ((l1.countP fun q => decide (q.flow = p.flow) : Nat) : Int) := h.od.choose_spec.sq
theorem Sim.after (h : Sim x s rel) {a b : List Pk} {p q : Pk} (e : x.pk = a ++ p :: b) (hq : q ∈ b) (hf : q.flow = p.flow) : p.seq < q.seq := by
  obtain ⟨b1, b2, rfl⟩ := List.append_of_mem hq
  have h1 := h.sq a p _ e
  have h2 := h.sq (a ++ p :: b1) q b2 (by rw [e]; simp)
  rw [h1, h2, List.countP_append, List.countP_cons_of_pos (by simp [hf]), hf]
  omega
theorem Sim.ahead (h : Sim x s rel) {a b : List Pk} {p q : Pk} (e : x.pk = a ++ p :: b) (hq : q ∈ a) (hf : q.flow = p.flow) : q.seq < p.seq := by
  obtain ⟨a1, a2, rfl⟩ := List.append_of_mem hq
  exact h.after (a := a1) (b := a2 ++ p :: b) (by rw [e]; simp) (by simp) hf.symm
theorem due_at {fl : List Stt} {k : Nat} {st : Stt} (h : fl[k]? = some st) : dueOf fl (k : Int) = st.f.d := by unfold dueOf; rw [Int.toNat_natCast, h]
theorem is_at {fl : List Stt} {k : Nat} {st : Stt} (h : fl[k]? = some st) : isOf fl (k : Int) = st.is := by unfold isOf; rw [Int.toNat_natCast, h]
theorem is_none' {fl : List Stt} {k : Nat} (h : fl[k]? = none) : isOf fl (k : Int) = 2 := by unfold isOf; rw [Int.toNat_natCast, h]
theorem toTick_le {r now : Int} (h : toTick r ≤ now) (hn : now ≤ 1000000000000) : 0 ≤ r ∧ r ≤ now ∧ toTick r = r := by
  unfold toTick never at *
  split at h
  · omega
  · rename_i g; rw [if_neg g]; omega
theorem toTick_of {r : Int} (h : 0 ≤ r) : toTick r = r := by unfold toTick; rw [if_neg (by omega)]
/-- One packet goes into the queue: nothing changes that the document sees. -/
theorem Sim.rel1 (h : Sim x s rel) (hn : x.now ≤ 1000000000000) {s' : PS} (hr : Rel1 s s') : ∃ rel', Sim x s' rel' := by
  obtain ⟨k, f, p, tl, v, vh, o, H, hf, hL, hrd, hHp, hP, rfl⟩ := hr
  obtain ⟨st, hst, e1, e2, e3, e4, e5, e6⟩ := h.val k f hf
  rw [h.now] at hrd
  obtain ⟨r0, r1, r2⟩ := toTick_le hrd hn
  rw [hL] at e5
  obtain ⟨a, b, ep, ha, hp, etl⟩ := List.filter_eq_cons_iff.1 e5.symm
  obtain ⟨pf, pw, ps⟩ := (hdB_iff _ _ _).1 hp
  have hp' : p ∈ x.pk := by rw [ep]; simp
  have hk0 : (0 : Int) ≤ (k : Int) := by omega
  -- the new numbers
  have hrel : ∀ j, (if j = (k : Int) then p.seq + 1 else rel j) = (if j = (k : Int) then p.seq + 1 else rel j) := fun _ => rfl
  have hq : ∀ q ∈ x.pk, q ≠ p ∨ True → quB (fun j => if j = (k : Int) then p.seq + 1 else rel j) q = true → quB rel q = true ∨ (q.flow = k ∧ q.seq ≤ p.seq ∧ wt q = true) := by
    intro q _ _ hq
    obtain ⟨q0, q1, q2⟩ := (quB_iff _ _).1 hq
    by_cases e : q.flow = (k : Int)
    · rw [if_pos e] at q2; exact .inr ⟨e, by omega, q1⟩
    · rw [if_neg e] at q2; exact .inl ((quB_iff _ _).2 ⟨q0, q1, q2⟩)
  have hA : a.filter (quB fun j => if j = (k : Int) then p.seq + 1 else rel j) = a.filter (quB rel) := by
    refine List.filter_congr fun q hq => ?_
    rw [Bool.eq_iff_iff, quB_iff, quB_iff]
    by_cases e : q.flow = (k : Int)
    · rw [if_pos e, e]
      have hno := ha q hq
      have hlt := h.ahead ep hq (e.trans pf.symm)
      constructor
      · rintro ⟨_, w, _⟩
        refine ⟨hk0, w, ?_⟩
        rcases Int.lt_or_le q.seq (rel k) with g | g
        · exact g
        · exact absurd ((hdB_iff _ _ _).2 ⟨e, w, g⟩) hno
      · rintro ⟨_, w, _⟩; exact ⟨hk0, w, by omega⟩
    · rw [if_neg e]
  have hB : b.filter (quB fun j => if j = (k : Int) then p.seq + 1 else rel j) = b.filter (quB rel) := by
    refine List.filter_congr fun q hq => ?_
    rw [Bool.eq_iff_iff, quB_iff, quB_iff]
    by_cases e : q.flow = (k : Int)
    · rw [if_pos e, e]
      have hlt := h.after ep hq (e.trans pf.symm)
      constructor
      · rintro ⟨_, _, g⟩; omega
      · rintro ⟨_, _, g⟩; omega
    · rw [if_neg e]
  have hpq : quB (fun j => if j = (k : Int) then p.seq + 1 else rel j) p = true := (quB_iff _ _).2 ⟨by omega, pw, by rw [if_pos pf]; omega⟩
  have hpn : quB rel p = false := by
    rw [← Bool.not_eq_true]
    intro g
    have := ((quB_iff _ _).1 g).2.2
    rw [pf] at this
    omega
  refine ⟨fun j => if j = (k : Int) then p.seq + 1 else rel j, ?_⟩
  refine ⟨h.od, ?_, ?_, h.aw, h.tl, ?_, h.is, h.now, h.num, ?_, ?_, ?_, h.O, h.br, h.G⟩
  · intro q hq hx
    rw [ep] at hq
    rcases List.mem_append.1 hq with g | g
    · have : q ∈ a.filter (quB rel) := by rw [← hA]; exact List.mem_filter.2 ⟨g, hx⟩
      exact h.rr q (by rw [ep]; exact hq) (List.mem_filter.1 this).2
    · rcases List.mem_cons.1 g with rfl | g
      · exact ⟨r0, r1⟩
      · have : q ∈ b.filter (quB rel) := by rw [← hB]; exact List.mem_filter.2 ⟨g, hx⟩
        exact h.rr q (by rw [ep]; exact hq) (List.mem_filter.1 this).2
  · intro q hq q0 qw qi
    have := h.lg q hq q0 qw qi
    by_cases e : q.flow = (k : Int)
    · show q.seq < if q.flow = (k : Int) then p.seq + 1 else rel q.flow
      rw [if_pos e]; rw [e] at this; omega
    · show q.seq < if q.flow = (k : Int) then p.seq + 1 else rel q.flow
      rw [if_neg e]; exact this
  · intro j
    show (if j = (k : Int) then p.seq + 1 else rel j) ≤ _
    by_cases e : j = (k : Int)
    · rw [if_pos e, h.sq a p b ep, e]
      unfold Ln.seqOf
      rw [ep, List.countP_append, List.countP_cons_of_pos (by simp [pf]), pf]
      omega
    · rw [if_neg e]; exact h.rb j
  · intro j
    show (∃ g, upd s.fs k _ j = some g) ↔ _
    by_cases e : j = k
    · subst e
      rw [upd_same]
      constructor
      · intro _; exact (h.dom j).1 ⟨f, hf⟩
      · intro _; exact ⟨_, rfl⟩
    · rw [upd_far _ _ e]; exact h.dom j
  · intro j g hg
    have hg' : upd s.fs k _ j = some g := hg
    by_cases e : j = k
    · subst e
      rw [upd_same] at hg'
      obtain rfl := Option.some.inj hg'
      refine ⟨st, hst, e1, e2, e3, e4, ?_, e6⟩
      show tl = x.pk.filter (hdB j (if (j : Int) = (j : Int) then p.seq + 1 else rel j))
      rw [if_pos rfl, ep, List.filter_append]
      have f1 : a.filter (hdB j (p.seq + 1)) = [] := by
        rw [List.filter_eq_nil_iff]
        intro q hq g
        obtain ⟨g1, _, g3⟩ := (hdB_iff _ _ _).1 g
        have := h.ahead ep hq (g1.trans pf.symm)
        omega
      have f2 : (p :: b).filter (hdB j (p.seq + 1)) = b.filter (hdB j (rel j)) := by
        rw [List.filter_cons_of_neg (by rw [hdB_iff]; omega)]
        refine List.filter_congr fun q hq => ?_
        rw [Bool.eq_iff_iff, hdB_iff, hdB_iff]
        constructor
        · rintro ⟨c1, c2, c3⟩; exact ⟨c1, c2, by omega⟩
        · rintro ⟨c1, c2, _⟩
          have := h.after ep hq (c1.trans pf.symm)
          exact ⟨c1, c2, by omega⟩
      rw [f1, f2, List.nil_append, etl]
    · rw [upd_far _ _ e] at hg'
      obtain ⟨st', h1, h2, h3, h4, h5, h6, h7⟩ := h.val j g hg'
      refine ⟨st', h1, h2, h3, h4, h5, ?_, h7⟩
      show g.L = x.pk.filter (hdB j (if (j : Int) = (k : Int) then p.seq + 1 else rel j))
      rw [if_neg (by omega)]; exact h6
  · refine hP.trans ?_
    rw [e1]
    have ed : dueOf x.fl p.flow = st.f.d := by rw [pf]; exact due_at hst
    rw [ep, List.filter_append, List.filter_cons_of_pos hpq, hA, hB]
    have hH := h.H
    rw [ep, List.filter_append, List.filter_cons_of_neg (by rw [hpn]; decide)] at hH
    rw [List.map_append, List.map_cons, ed]
    rw [List.map_append] at hH
    exact (hH.cons _).trans List.perm_middle.symm
end
end Go.Proofs.YtcnmajndackohaaGreatDoor
/-
  Plain: busy, what is ready, and the flows that linger: the program's line and the document's.
-/
namespace Go.Proofs.YtcnmajndackohaaGreatDoor
section
variable {x : Ln} {s : PS} {rel : Int → Int}
theorem untold_mem {pk : List Pk} {l : List Nat} {p : Pk} (h : p ∈ untoldL pk l) : (∃ i ∈ l, pk[i]? = some p) ∧ p.told = false := by
  unfold untoldL at h
  rw [List.mem_filter, List.mem_filterMap] at h
  exact ⟨h.1, by simpa using h.2⟩
theorem Sim.last (h : Sim x s rel) (hb : x.busy = true) : ∃ p, x.last = some p ∧ s.G.getLast? = some p ∧ x.now < p.start + p.size ∧ p ∈ x.pk := by
  obtain ⟨l1, p, l2, e, hl, hg, h0, h1, _⟩ := h.inv.bsy hb
  have hp : x.pk[l1.length]? = some p := by rw [e]; exact get_at
  have hm : p ∈ x.pk := by rw [e]; simp
  have ht : p.told = false := by
    rw [← Bool.not_eq_true]
    intro g
    have := h.tl p hm g
    omega
  refine ⟨p, hl, ?_, h1, hm⟩
  rw [h.G]
  unfold untoldL
  obtain ⟨l, hl'⟩ : ∃ l, x.began = l ++ [l1.length] := by
    rcases List.eq_nil_or_concat x.began with g | ⟨l, i, g⟩
    · rw [g] at hg; cases hg
    · rw [List.concat_eq_append] at g
      rw [g] at hg
      simp at hg
      exact ⟨l, by rw [g, hg]⟩
  rw [hl', List.filterMap_append, List.filter_append]
  simp [hp, ht]
theorem Sim.busy (h : Sim x s rel) : s.busy = x.busy := by
  cases hb : x.busy with
  | true =>
    obtain ⟨p, _, h2, h3, _⟩ := h.last hb
    unfold PS.busy
    rw [h2, h.now]
    simpa using h3
  | false =>
    have hi := h.inv.idle hb
    unfold PS.busy
    cases hg : s.G.getLast? with
    | none => rfl
    | some p =>
      have hm := List.mem_of_getLast? hg
      rw [h.G] at hm
      obtain ⟨⟨i, hi', hp⟩, _⟩ := untold_mem hm
      obtain ⟨q, hq, h0⟩ := h.inv.bg i hi'
      rw [hp] at hq
      obtain rfl := Option.some.inj hq
      have := hi p (List.mem_of_getElem? hp)
      unfold done at this
      simp only [h.now]
      rw [decide_eq_false_iff_not]
      omega
theorem Sim.fl1 (h : Sim x s rel) {p : Pk} (hp : p ∈ x.pk) : 0 ≤ p.flow ∨ p.flow = -1 := by
  rcases Int.lt_or_le p.flow 0 with g | g
  · exact .inr (h.od.choose_spec.od p hp g).1
  · exact .inl g
theorem Sim.carries (h : Sim x s rel) : s.carries = (x.busy && x.ofFlow) := by
  unfold PS.carries
  rw [h.busy]
  cases hb : x.busy with
  | false => rfl
  | true =>
    obtain ⟨p, h1, h2, _, hm⟩ := h.last hb
    unfold Ln.ofFlow
    rw [h1, h2]
    rcases h.fl1 hm with g | g
    · simp [g]; omega
    · simp [g]
/-- All that is ready has gone into the queue. -/
def Rld (s : PS) : Prop := ∀ k f p tl, s.fs k = some f → f.L = p :: tl → s.now < toTick p.ready
theorem Sim.el (h : Sim x s rel) (hr : Rld s) : ∀ p ∈ x.pk, quB rel p = elB x.now true p := by
  intro p hp
  rw [Bool.eq_iff_iff, quB_iff, elB_iff]
  constructor
  · intro g
    obtain ⟨a, b, c⟩ := g
    have := h.rr p hp ((quB_iff _ _).2 ⟨a, b, c⟩)
    obtain ⟨w1, w2⟩ := (wt_iff p).1 b
    exact ⟨⟨w1, w2, this.1, this.2⟩, by simp [a]⟩
  · rintro ⟨⟨w1, w2, r0, r1⟩, hf⟩
    have f0 : 0 ≤ p.flow := hf.2 rfl
    have hw := (wt_iff p).2 ⟨w1, w2⟩
    refine ⟨f0, hw, ?_⟩
    rcases Int.lt_or_le p.seq (rel p.flow) with g | g
    · exact g
    · exfalso
      have his := h.aw p hp f0 hw
      obtain ⟨k, hk⟩ : ∃ k : Nat, p.flow = (k : Int) := ⟨p.flow.toNat, by omega⟩
      obtain ⟨st, hst⟩ : ∃ st, x.fl[k]? = some st := by
        cases hst : x.fl[k]? with
        | none => rw [hk, is_none' hst] at his; omega
        | some st => exact ⟨st, rfl⟩
      rw [hk, is_at hst] at his
      obtain ⟨f, hf'⟩ := (h.dom k).2 ⟨st, hst, his⟩
      obtain ⟨_, _, _, _, _, _, e5, _⟩ := h.val k f hf'
      have hin : p ∈ f.L := by rw [e5]; exact List.mem_filter.2 ⟨hp, (hdB_iff _ _ _).2 ⟨hk, hw, by rw [← hk]; exact g⟩⟩
      cases hL : f.L with
      | nil => rw [hL] at hin; cases hin
      | cons q tl =>
        have hh := hr k f q tl hf' hL
        rw [h.now] at hh
        rw [hL] at e5
        obtain ⟨a, b, ep, _, hq, etl⟩ := List.filter_eq_cons_iff.1 e5.symm
        obtain ⟨qf, _, _⟩ := (hdB_iff _ _ _).1 hq
        rw [hL] at hin
        rcases List.mem_cons.1 hin with rfl | hin
        · rw [toTick_of r0] at hh; omega
        · rw [← etl] at hin
          have hb := (List.mem_filter.1 hin).1
          obtain ⟨b1, b2, rfl⟩ := List.append_of_mem hb
          have := ready_order h.inv (l1 := a ++ q :: b1) (p := p) (l2 := b2) (by rw [ep]; simp) f0 r0 q (by simp) (qf.trans hk.symm)
          rw [toTick_of this.1] at hh
          omega
theorem Sim.some_ready (h : Sim x s rel) (hr : Rld s) : 0 < s.H.length ↔ (x.first true).isSome = true := by
  rw [h.H.length_eq, List.length_map]
  constructor
  · intro g
    obtain ⟨p, hp⟩ := List.exists_mem_of_length_pos g
    obtain ⟨h1, h2⟩ := List.mem_filter.1 hp
    cases hf : x.first true with
    | some b => rfl
    | none =>
      have := first_none hf p h1
      rw [← h.el hr p h1, h2] at this
      cases this
  · intro g
    obtain ⟨b, hb⟩ := Option.isSome_iff_exists.1 g
    obtain ⟨l1, p, l2, e, _, he, _⟩ := first_some hb
    have hp : p ∈ x.pk := by rw [e]; simp
    exact List.length_pos_of_mem (List.mem_filter.2 ⟨hp, by rw [h.el hr p hp]; exact he⟩)
theorem gone_get {fl : List Stt} {k : Nat} : (fl.map gone1)[k]? = (fl[k]?).map gone1 := List.getElem?_map
/-- The flows that linger are away, just where the document says so. -/
theorem Sim.settle (h : Sim x s rel) (hr : Rld s) : Sim x.away s.settle rel ∧ Rld s.settle := by
  have hc : (0 < s.H.length ∨ s.carries = true) ↔ ((x.first true).isSome = true ∨ (x.busy = true ∧ x.ofFlow = true)) := by
    rw [h.some_ready hr, h.carries]; simp
  unfold PS.settle Ln.away
  by_cases g : (x.first true).isSome = true ∨ (x.busy = true ∧ x.ofFlow = true)
  · rw [if_pos g, if_pos (hc.2 g)]
    exact ⟨h, hr⟩
  · rw [if_neg g, if_neg (fun e => g (hc.1 e))]
    have hH : s.H = [] := List.eq_nil_of_length_eq_zero (by
      have : ¬ 0 < s.H.length := fun e => g (hc.1 (.inl e))
      omega)
    have hq : ∀ p ∈ x.pk, quB rel p = false := by
      intro p hp
      rw [← Bool.not_eq_true]
      intro e
      have := h.H.length_eq
      rw [hH, List.length_map] at this
      have h2 := List.length_pos_of_mem (List.mem_filter.2 ⟨hp, e⟩)
      simp at this
      omega
    obtain ⟨B, hB⟩ := h.od
    have hod : ∃ B, Od { x with fl := x.fl.map gone1 } B := ⟨B, by
      have := od_away hB
      unfold Ln.away at this
      rwa [if_neg g] at this⟩
    refine ⟨⟨hod, h.rr, ?_, ?_, h.tl, h.rb, ?_, h.now, ?_, ?_, ?_, ?_, h.O, h.br, h.G⟩, ?_⟩
    · intro p hp p0 pw pi
      have e : isOf (x.fl.map gone1) p.flow = 1 := pi
      rw [is_gone] at e
      split at e <;> omega
    · intro p hp p0 pw
      show isOf (x.fl.map gone1) p.flow < 2
      rw [is_gone]
      have h1 := h.aw p hp p0 pw
      split
      · rename_i e
        have := h.lg p hp p0 pw e
        have h2 := hq p hp
        rw [(quB_iff _ _).2 ⟨p0, pw, this⟩] at h2
        cases h2
      · exact h1
    · intro st hst
      have hst' : st ∈ x.fl.map gone1 := hst
      obtain ⟨st0, h0, rfl⟩ := List.mem_map.1 hst'
      have := h.is st0 h0
      unfold gone1
      split
      · exact .inr (.inr rfl)
      · exact this
    · show s.num = (x.fl.map gone1).length
      rw [List.length_map]; exact h.num
    · intro k
      show (∃ f, fsL s.fs (fun _ => false) k = some f) ↔ ∃ st, (x.fl.map gone1)[k]? = some st ∧ st.is < 2
      rw [gone_get]
      constructor
      · rintro ⟨f, hf⟩
        have hf' := fsL_sub hf
        obtain ⟨st, h1, _, h3, _⟩ := h.val k f hf'
        obtain ⟨st', h4, h5⟩ := (h.dom k).1 ⟨f, hf'⟩
        rw [h1] at h4
        obtain rfl := Option.some.inj h4
        refine ⟨gone1 st, by rw [h1]; rfl, ?_⟩
        have ht : f.torn = false := by
          rw [← Bool.not_eq_true]
          intro e
          unfold fsL at hf
          rw [hf'] at hf
          simp [e] at hf
        rw [ht] at h3
        have h3' : ¬ st.is = 1 := by simpa using h3.symm
        unfold gone1
        rw [if_neg h3']; exact h5
      · rintro ⟨st, h1, h2⟩
        obtain ⟨st0, h3, rfl⟩ := Option.map_eq_some_iff.1 h1
        have h4 : st0.is < 2 ∧ ¬ st0.is = 1 := by
          unfold gone1 at h2
          split at h2
          · simp at h2
          · rename_i e; exact ⟨h2, e⟩
        obtain ⟨f, hf⟩ := (h.dom k).2 ⟨st0, h3, h4.1⟩
        obtain ⟨st', h5, _, h6, _⟩ := h.val k f hf
        rw [h3] at h5
        obtain rfl := Option.some.inj h5
        refine ⟨f, ?_⟩
        unfold fsL
        rw [hf]
        simp [h6, h4.2]
    · intro k f hf
      have hf' : s.fs k = some f := fsL_sub (left := fun _ => false) hf
      obtain ⟨st, h1, h2, h3, h4, h5, h6, h7⟩ := h.val k f hf'
      have ht : f.torn = false := by
        rw [← Bool.not_eq_true]
        intro e
        have hf2 : fsL s.fs (fun _ => false) k = some f := hf
        unfold fsL at hf2
        rw [hf'] at hf2
        simp [e] at hf2
      have h3' : ¬ st.is = 1 := by rw [ht] at h3; simpa using h3.symm
      have hg1 : gone1 st = st := by unfold gone1; rw [if_neg h3']
      refine ⟨st, ?_, h2, h3, h4, h5, h6, h7⟩
      show (x.fl.map gone1)[k]? = some st
      rw [gone_get, h1, Option.map_some, hg1]
    · have : x.pk.filter (quB rel) = [] := by
        rw [List.filter_eq_nil_iff]
        intro p hp
        rw [hq p hp]; decide
      show s.H.Perm ((x.pk.filter (quB rel)).map _)
      rw [hH, this]
      exact List.Perm.refl _
    · intro k f p tl hf hL
      exact hr k f p tl (fsL_sub (left := fun _ => false) hf) hL
end
end Go.Proofs.YtcnmajndackohaaGreatDoor
/-
  Plain: what begins: the program's line and the document's, one tick later.
-/
namespace Go.Proofs.YtcnmajndackohaaGreatDoor
section
variable {x : Ln} {s : PS} {rel : Int → Int}
/-- The document's line where nothing begins. -/
theorem Sim.later (h : Sim x s rel) (hod : ∃ B, Od { x with now := x.now + 1 } B) : Sim { x with now := x.now + 1 } { s with now := s.now + 1 } rel := by
  refine ⟨hod, fun p hp hq => ?_, h.lg, h.aw, fun p hp ht => ?_, h.rb, h.is, ?_, h.num, h.dom, h.val, h.H, h.O, h.br, h.G⟩
  · have := h.rr p hp hq
    exact ⟨this.1, by show p.ready ≤ x.now + 1; omega⟩
  · have := h.tl p hp ht
    exact ⟨this.1, by show p.start + p.size ≤ x.now + 1; omega⟩
  · show s.now + 1 = x.now + 1
    rw [h.now]
theorem wt_beg (now : Int) (p : Pk) (h : 0 ≤ now) : wt (beg now p) = false := by
  rw [← Bool.not_eq_true, wt_iff]
  intro g
  have : (beg now p).start = now := rfl
  omega
theorem sk_beg (now : Int) (p : Pk) : (beg now p).sk = p.sk := rfl
theorem get_far {l1 l2 : List Pk} {p z : Pk} {i : Nat} (h : i ≠ l1.length) : (l1 ++ z :: l2)[i]? = (l1 ++ p :: l2)[i]? := by
  rcases Nat.lt_or_ge i l1.length with g | g
  · rw [List.getElem?_append_left g, List.getElem?_append_left g]
  · rw [List.getElem?_append_right g, List.getElem?_append_right g]
    obtain ⟨j, hj⟩ : ∃ j, i - l1.length = j + 1 := ⟨i - l1.length - 1, by omega⟩
    rw [hj]; rfl
theorem fm_congr {α β : Type} (f g : α → Option β) : ∀ (l : List α), (∀ a ∈ l, f a = g a) → l.filterMap f = l.filterMap g
  | [], _ => rfl
  | a :: l, h => by
    rw [List.filterMap_cons, List.filterMap_cons, h a (List.mem_cons_self ..), fm_congr f g l fun b hb => h b (List.mem_cons_of_mem _ hb)]
/-- The parts that every beginning has. -/
theorem Sim.begs (h : Sim x s rel) {l1 l2 : List Pk} {p : Pk} (e : x.pk = l1 ++ p :: l2) (he : El x.now p) (hqp : 0 ≤ p.flow → p.seq < rel p.flow) (hod : ∃ B, Od ⟨x.now + 1, x.fl, l1 ++ beg x.now p :: l2, x.began ++ [l1.length]⟩ B)
    {s' : PS} (hn : s'.now = s.now + 1) (hnum : s'.num = s.num) (hbr : s'.br = s.br) (hG : s'.G = s.G ++ [⟨p.flow, p.seq, p.size, p.ready, s.now, false, false⟩])
    (hfs : (0 ≤ p.flow ∧ ∃ f, s.fs p.flow.toNat = some f ∧ s'.fs = upd s.fs p.flow.toNat { f with wa := f.wa - 1 }) ∨ (p.flow < 0 ∧ s'.fs = s.fs))
    (hH : s'.H.Perm (((l1 ++ l2).filter (quB rel)).map fun p => enP p (dueOf x.fl p.flow))) (hO : s'.O = (l1 ++ l2).filter othB) :
    Sim ⟨x.now + 1, x.fl, l1 ++ beg x.now p :: l2, x.began ++ [l1.length]⟩ s' rel := by
  have n0 := h.inv.n0
  have hwb := wt_beg x.now p n0
  have hmem : ∀ q ∈ l1 ++ beg x.now p :: l2, q = beg x.now p ∨ q ∈ x.pk := fun q hq => by rw [e]; exact mem_beg hq
  have hpm : p ∈ x.pk := by rw [e]; simp
  have hq0 : quB rel (beg x.now p) = false := by
    rw [← Bool.not_eq_true, quB_iff]
    rintro ⟨_, g, _⟩
    rw [hwb] at g; cases g
  have hhd : ∀ k r, hdB k r (beg x.now p) = false := fun k r => by
    rw [← Bool.not_eq_true, hdB_iff]
    rintro ⟨_, g, _⟩
    rw [hwb] at g; cases g
  have hot0 : othB (beg x.now p) = false := by
    rw [← Bool.not_eq_true, othB_iff]
    rintro ⟨_, g⟩
    rw [hwb] at g; cases g
  have hfil : ∀ (c : Pk → Bool), c (beg x.now p) = false → (l1 ++ beg x.now p :: l2).filter c = (l1 ++ l2).filter c := fun c hc => by
    rw [List.filter_append, List.filter_append, List.filter_cons_of_neg (by rw [hc]; decide)]
  have hsk : (l1 ++ beg x.now p :: l2).map Pk.sk = x.pk.map Pk.sk := by rw [e]; simp [sk_beg]
  have hpw : wt p = true := (wt_iff p).2 ⟨he.1, he.2.1⟩
  have hseq : ∀ k : Int, (⟨x.now + 1, x.fl, l1 ++ beg x.now p :: l2, x.began ++ [l1.length]⟩ : Ln).seqOf k = x.seqOf k := fun k => by
    unfold Ln.seqOf
    show (l1 ++ beg x.now p :: l2).countP _ = _
    rw [e, List.countP_append, List.countP_append, List.countP_cons, List.countP_cons]
    rfl
  have hwait : ∀ k : Int, ((⟨x.now + 1, x.fl, l1 ++ beg x.now p :: l2, x.began ++ [l1.length]⟩ : Ln).waiting k : Int) = (x.waiting k : Int) - if p.flow = k then 1 else 0 := fun k => by
    unfold Ln.waiting
    show (((l1 ++ beg x.now p :: l2).countP fun p => decide (p.flow = k) && decide (p.start < 0) && !p.dropped : Nat) : Int) = _
    rw [e, List.countP_append, List.countP_append, List.countP_cons, List.countP_cons]
    have c1 : (decide ((beg x.now p).flow = k) && decide ((beg x.now p).start < 0) && !(beg x.now p).dropped) = false := by
      have : ¬ (beg x.now p).start < 0 := by show ¬ x.now < 0; omega
      simp [this]
    have c2 : (decide (p.flow = k) && decide (p.start < 0) && !p.dropped) = decide (p.flow = k) := by
      simp [he.1, he.2.1]
    rw [c1, c2]
    by_cases g : p.flow = k
    · simp [g]; omega
    · simp [g]
  have htold : p.told = false := by
    rw [← Bool.not_eq_true]
    intro g
    have := (h.tl p hpm g).1
    have := he.1
    omega
  refine ⟨hod, ?_, ?_, ?_, ?_, ?_, h.is, ?_, ?_, ?_, ?_, ?_, ?_, ?_, ?_⟩
  · intro q hq hx
    rcases hmem q hq with rfl | g
    · rw [hq0] at hx; cases hx
    · have := h.rr q g hx
      exact ⟨this.1, by show q.ready ≤ x.now + 1; omega⟩
  · intro q hq q0 qw qi
    rcases hmem q hq with rfl | g
    · rw [hwb] at qw; cases qw
    · exact h.lg q g q0 qw qi
  · intro q hq q0 qw
    rcases hmem q hq with rfl | g
    · rw [hwb] at qw; cases qw
    · exact h.aw q g q0 qw
  · intro q hq qt
    rcases hmem q hq with rfl | g
    · have : p.told = true := qt
      rw [htold] at this; cases this
    · have := h.tl q g qt
      exact ⟨this.1, by show q.start + q.size ≤ x.now + 1; omega⟩
  · intro k
    rw [hseq]; exact h.rb k
  · rw [hn, h.now]
  · rw [hnum]; exact h.num
  · intro k
    show (∃ f, s'.fs k = some f) ↔ ∃ st, x.fl[k]? = some st ∧ st.is < 2
    rw [← h.dom k]
    rcases hfs with ⟨_, f, hf, hu⟩ | ⟨_, hu⟩
    · rw [hu]
      by_cases g : k = p.flow.toNat
      · subst g
        rw [upd_same]
        exact ⟨fun _ => ⟨f, hf⟩, fun _ => ⟨_, rfl⟩⟩
      · rw [upd_far _ _ g]
    · rw [hu]
  · intro k f hf
    have hL : ∀ k r, (l1 ++ beg x.now p :: l2).filter (hdB k r) = (l1 ++ l2).filter (hdB k r) := fun k r => hfil _ (hhd k r)
    rcases hfs with ⟨p0, f0, hf0, hu⟩ | ⟨p0, hu⟩
    · rw [hu] at hf
      by_cases g : k = p.flow.toNat
      · subst g
        rw [upd_same] at hf
        obtain rfl := Option.some.inj hf
        obtain ⟨st, h1, h2, h3, h4, h5, h6, h7⟩ := h.val _ f0 hf0
        have hpf : ((p.flow.toNat : Nat) : Int) = p.flow := by omega
        refine ⟨st, h1, h2, h3, ?_, ?_, ?_, h7.same hsk⟩
        · rw [hseq]; exact h4
        · rw [hwait, hpf, if_pos rfl]
          show f0.wa - 1 = _
          rw [h5, hpf]
        · show f0.L = _
          rw [hL, h6, e, List.filter_append, List.filter_append, List.filter_cons_of_neg]
          rw [hdB_iff, hpf]
          have := hqp p0
          omega
      · rw [upd_far _ _ g] at hf
        obtain ⟨st, h1, h2, h3, h4, h5, h6, h7⟩ := h.val k f hf
        have hne : ¬ p.flow = (k : Int) := fun c => g (by omega)
        refine ⟨st, h1, h2, h3, ?_, ?_, ?_, h7.same hsk⟩
        · rw [hseq]; exact h4
        · rw [hwait, if_neg hne, h5]; omega
        · rw [hL, h6, e, List.filter_append, List.filter_append, List.filter_cons_of_neg]
          rw [hdB_iff]; exact fun c => hne c.1
    · rw [hu] at hf
      obtain ⟨st, h1, h2, h3, h4, h5, h6, h7⟩ := h.val k f hf
      have hne : ¬ p.flow = (k : Int) := by omega
      refine ⟨st, h1, h2, h3, ?_, ?_, ?_, h7.same hsk⟩
      · rw [hseq]; exact h4
      · rw [hwait, if_neg hne, h5]; omega
      · rw [hL, h6, e, List.filter_append, List.filter_append, List.filter_cons_of_neg]
        rw [hdB_iff]; exact fun c => hne c.1
  · show s'.H.Perm (((l1 ++ beg x.now p :: l2).filter (quB rel)).map _)
    rw [hfil _ hq0]; exact hH
  · show s'.O = (l1 ++ beg x.now p :: l2).filter othB
    rw [hfil _ hot0]; exact hO
  · rw [hseq, hbr]; exact h.br
  · rw [hG, h.G, h.now]
    unfold untoldL
    show _ = ((x.began ++ [l1.length]).filterMap fun i => (l1 ++ beg x.now p :: l2)[i]?).filter fun p => !p.told
    rw [List.filterMap_append, List.filter_append]
    have hlast : ([l1.length].filterMap fun i => (l1 ++ beg x.now p :: l2)[i]?) = [beg x.now p] := by
      rw [List.filterMap_cons_some get_at]; rfl
    rw [hlast]
    have hold : (x.began.filterMap fun i => (l1 ++ beg x.now p :: l2)[i]?) = x.began.filterMap fun i => x.pk[i]? := by
      refine fm_congr _ _ _ fun i hi => ?_
      have : i ≠ l1.length := by
        rintro rfl
        obtain ⟨q, hq, q0⟩ := h.inv.bg _ hi
        rw [e, get_at] at hq
        obtain rfl := Option.some.inj hq
        have := he.1
        omega
      rw [e]; exact get_far this
    rw [hold]
    congr 1
    have hb : beg x.now p = ⟨p.flow, p.seq, p.size, p.ready, x.now, false, false⟩ := by
      obtain ⟨f1, f2, f3, f4, f5, f6, f7⟩ := p
      have g1 : f6 = false := he.2.1
      have g2 : f7 = false := htold
      subst g1 g2
      rfl
    rw [List.filter_cons_of_pos (by simp [beg, htold]), hb]
    rfl
theorem pickF_lex {now : Int} {fl : List Stt} {flows : Bool} : ∀ (l : List Pk) (i : Nat) (b : Option Bst) (c : Bst), pickF now fl flows l i b = some c →
    (∀ q ∈ l, elB now flows q = true → c.due < key fl flows q ∨ (c.due = key fl flows q ∧ c.flow ≤ q.flow)) ∧ ∀ b', b = some b' → c.due < b'.due ∨ (c.due = b'.due ∧ c.flow ≤ b'.flow)
  | [], _, b, c, h => by
    refine ⟨fun q hq => (List.not_mem_nil hq).elim, fun b' hb => ?_⟩
    have h' : b = some c := h
    rw [hb] at h'
    obtain rfl := Option.some.inj h'
    omega
  | p :: l, i, b, c, h => by
    have h' : pickF now fl flows l (i + 1) (if elB now flows p = true ∧ better fl flows p b = true then some ⟨i, key fl flows p, p.flow⟩ else b) = some c := h
    by_cases g : elB now flows p = true ∧ better fl flows p b = true
    · rw [if_pos g] at h'
      obtain ⟨h1, h2⟩ := pickF_lex l (i + 1) _ c h'
      have h3 := h2 _ rfl
      refine ⟨fun q hq he => ?_, fun b' hb => ?_⟩
      · rcases List.mem_cons.1 hq with rfl | hq
        · exact h3
        · exact h1 q hq he
      · subst hb
        have := g.2
        unfold better at this
        simp only [Bool.or_eq_true, Bool.and_eq_true, decide_eq_true_eq] at this
        have h4 : c.due < key fl flows p ∨ (c.due = key fl flows p ∧ c.flow ≤ p.flow) := h3
        omega
    · rw [if_neg g] at h'
      obtain ⟨h1, h2⟩ := pickF_lex l (i + 1) _ c h'
      refine ⟨fun q hq he => ?_, h2⟩
      rcases List.mem_cons.1 hq with rfl | hq
      · cases b with
        | none => exact absurd ⟨he, rfl⟩ g
        | some b' =>
          have h3 := h2 b' rfl
          have : ¬ better fl flows q (some b') = true := fun k => g ⟨he, k⟩
          unfold better at this
          simp only [Bool.or_eq_true, Bool.and_eq_true, decide_eq_true_eq] at this
          omega
      · exact h1 q hq he
theorem first_lex {flows : Bool} {l1 l2 : List Pk} {p : Pk} {b : Bst} (h : x.first flows = some b) (e : x.pk = l1 ++ p :: l2) (hi : b.i = l1.length) : ∀ q ∈ x.pk, elB x.now flows q = true → key x.fl flows p < key x.fl flows q ∨ (key x.fl flows p = key x.fl flows q ∧ p.flow ≤ q.flow) := by
  unfold Ln.first at h
  have hl := pickF_lex _ _ _ _ h
  rcases pickF_spec (now := x.now) (fl := x.fl) (flows := flows) x.pk 0 none with ⟨h1, _, _⟩ | ⟨m1, q, m2, e2, _, h3, _⟩
  · rw [h1] at h; cases h
  · rw [h3] at h
    have hb : (⟨0 + m1.length, key x.fl flows q, q.flow⟩ : Bst) = b := Option.some.inj h
    have hlen : m1.length = l1.length := by
      have : b.i = 0 + m1.length := by rw [← hb]
      omega
    obtain ⟨rfl, rfl, rfl⟩ := split_uniq (e2.symm.trans e) hlen
    rw [← hb] at hl
    exact hl.1
theorem En.same {a b : En} (h : a.le b) (k : b.le a) : a.dl = b.dl ∧ a.flow = b.flow ∧ a.seq = b.seq := by unfold En.le at h k; omega
theorem Sim.uniq (h : Sim x s rel) {p q : Pk} (hp : p ∈ x.pk) (hq : q ∈ x.pk) (hf : p.flow = q.flow) (hs : p.seq = q.seq) : p = q := by
  obtain ⟨a, b, e⟩ := List.append_of_mem hp
  rw [e] at hq
  rcases List.mem_append.1 hq with g | g
  · have := h.ahead e g hf.symm
    omega
  · rcases List.mem_cons.1 g with g | g
    · exact g.symm
    · have := h.after e g hf.symm
      omega
/-- What begins is what the document lets begin. -/
theorem Sim.adv (h : Sim x s rel) (hr : Rld s) {s' : PS} (hb : Beg s s') (hod : ∃ B, Od x.adv B) : Sim x.adv { s' with now := s.now + 1 } rel := by
  have hOe : ∀ q ∈ x.pk, othB q = elB x.now false q := by
    intro q hq
    rw [Bool.eq_iff_iff, othB_iff, elB_iff]
    constructor
    · rintro ⟨a, b⟩
      obtain ⟨w1, w2⟩ := (wt_iff q).1 b
      have := (h.od.choose_spec.od q hq (by omega)).2
      exact ⟨⟨w1, w2, this.1, this.2⟩, by simp; omega⟩
    · rintro ⟨⟨w1, w2, r0, r1⟩, g⟩
      have : ¬ 0 ≤ q.flow := fun c => by have := g.1 c; cases this
      rcases h.fl1 hq with c | c
      · exact absurd c this
      · exact ⟨c, (wt_iff q).2 ⟨w1, w2⟩⟩
  have hnone : s.H = [] → x.first true = none := fun g => by
    have := h.some_ready hr
    rw [g] at this
    cases hf : x.first true with
    | none => rfl
    | some b => rw [hf] at this; simp at this
  rcases hb with ⟨hb, rfl⟩ | ⟨hbz, hH, p, tl, v, vb, o, hO, rfl⟩ | ⟨hbz, e, H', v, vb, o, k, f, hP, hle, hk, hf, rfl⟩
  · have : x.adv = { x with now := x.now + 1 } := by
      unfold Ln.adv Ln.begins
      rcases hb with hb | ⟨hH, hO⟩
      · rw [h.busy] at hb
        rw [if_pos hb]
      · cases hbz : x.busy with
        | true => rw [if_pos rfl]
        | false =>
          rw [if_neg (by decide)]
          have h2 : x.first false = none := by
            cases hf : x.first false with
            | none => rfl
            | some b =>
              obtain ⟨l1, p, l2, ep, _, he, _⟩ := first_some hf
              have hp : p ∈ x.pk := by rw [ep]; simp
              have hin : p ∈ s'.O := by rw [h.O]; exact List.mem_filter.2 ⟨hp, by rw [hOe p hp]; exact he⟩
              rw [hO] at hin; cases hin
          have : x.goes = none := by unfold Ln.goes; rw [hnone hH]; exact h2
          rw [this]
    rw [this] at hod ⊢
    exact h.later hod
  · rw [h.busy] at hbz
    have hO' := h.O
    rw [hO] at hO'
    obtain ⟨a, b, ep, ha, hp, etl⟩ := List.filter_eq_cons_iff.1 hO'.symm
    have hpm : p ∈ x.pk := by rw [ep]; simp
    have hel := hp
    rw [hOe p hpm] at hel
    have hnel : ∀ q ∈ a, elB x.now false q = false := fun q hq => by
      rw [← hOe q (by rw [ep]; simp [hq])]
      simpa using ha q hq
    obtain ⟨b', hb'⟩ : ∃ b', x.first false = some b' := by
      cases hf : x.first false with
      | some b => exact ⟨b, rfl⟩
      | none =>
        have := first_none hf p hpm
        rw [hel] at this; cases this
    obtain ⟨l1, q, l2, eq1, hi, heq, _⟩ := first_some hb'
    have htie := first_tie hb' eq1 hi
    have hqp : l1 = a ∧ q = p ∧ l2 = b := by
      have hee : a ++ p :: b = l1 ++ q :: l2 := ep.symm.trans eq1
      have hlen : a.length = l1.length := by
        rcases Nat.lt_trichotomy a.length l1.length with g | g | g
        · exfalso
          have hpin : p ∈ l1 := by
            have h1 : (l1 ++ q :: l2)[a.length]? = some p := by rw [← hee]; exact get_at
            rw [List.getElem?_append_left g] at h1
            exact List.mem_of_getElem? h1
          have := htie.2 p hpin hel
          obtain ⟨pf, _⟩ := (othB_iff p).1 hp
          have hqm : q ∈ x.pk := by rw [eq1]; simp
          have qf := ((othB_iff q).1 (by rw [hOe q hqm]; exact heq)).1
          unfold key at this
          simp at this
          omega
        · exact g
        · exfalso
          have hqin : q ∈ a := by
            have h1 : (a ++ p :: b)[l1.length]? = some q := by rw [hee]; exact get_at
            rw [List.getElem?_append_left g] at h1
            exact List.mem_of_getElem? h1
          rw [hnel q hqin] at heq; cases heq
      obtain ⟨g1, g2, g3⟩ := split_uniq hee hlen
      exact ⟨g1.symm, g2.symm, g3.symm⟩
    obtain ⟨rfl, rfl, rfl⟩ := hqp
    have hgo : x.goes = some b' := by unfold Ln.goes; rw [hnone hH]; exact hb'
    have hadv : x.adv = ⟨x.now + 1, x.fl, l1 ++ beg x.now q :: l2, x.began ++ [l1.length]⟩ := by
      unfold Ln.adv Ln.begins
      rw [if_neg (by rw [hbz]; decide), hgo]
      simp only [hi]
      rw [ep, modify_at]
    rw [hadv] at hod ⊢
    obtain ⟨hE, _⟩ := (elB_iff _ _ _).1 heq
    obtain ⟨pf, _⟩ := (othB_iff q).1 hp
    refine h.begs ep hE (fun c => by omega) hod rfl rfl rfl ?_ (.inr ⟨by omega, rfl⟩) ?_ ?_
    · show s.G ++ [_] = s.G ++ [_]
      rw [toTick_of hE.2.2.1]
    · show s.H.Perm _
      have hH' := h.H
      rw [ep, List.filter_append, List.filter_cons_of_neg (by rw [quB_iff]; omega), ← List.filter_append] at hH'
      exact hH'
    · show tl = _
      rw [List.filter_append, List.filter_eq_nil_iff.2 ha, List.nil_append, etl]
  · rw [h.busy] at hbz
    have hmem : e ∈ s.H := hP.mem_iff.2 (List.mem_cons_self ..)
    obtain ⟨p, hpq, hpe⟩ := List.mem_map.1 (h.H.mem_iff.1 hmem)
    obtain ⟨hpm, hpB⟩ := List.mem_filter.1 hpq
    obtain ⟨p0, pw, ps⟩ := (quB_iff _ _).1 hpB
    have hpel := hpB
    rw [h.el hr p hpm] at hpel
    obtain ⟨hE, _⟩ := (elB_iff _ _ _).1 hpel
    obtain ⟨b', hb'⟩ : ∃ b', x.first true = some b' := by
      cases hf : x.first true with
      | some b => exact ⟨b, rfl⟩
      | none =>
        have := first_none hf p hpm
        rw [hpel] at this; cases this
    obtain ⟨l1, q, l2, eq1, hi, heq, hmin⟩ := first_some hb'
    have htie := first_tie hb' eq1 hi
    have hqm : q ∈ x.pk := by rw [eq1]; simp
    have hqB : quB rel q = true := by rw [h.el hr q hqm]; exact heq
    -- the document's one is the least
    have hqle : (enP q (dueOf x.fl q.flow)).le (enP p (dueOf x.fl p.flow)) := by
      obtain ⟨hQE, _⟩ := (elB_iff _ _ _).1 heq
      have h1 := hmin p hpm hpel
      unfold key at h1
      simp only [if_true] at h1
      unfold En.le enP
      simp only [toTick_of hQE.2.2.1, toTick_of hE.2.2.1]
      have h2 := first_lex hb' eq1 hi p hpm hpel
      unfold key at h2
      simp only [if_true] at h2
      by_cases hf : q.flow = p.flow
      · have hin := hpm
        rw [eq1] at hin
        rcases List.mem_append.1 hin with g | g
        · have := htie.2 p g hpel
          unfold key at this
          simp only [if_true] at this
          omega
        · rcases List.mem_cons.1 g with rfl | g
          · omega
          · have := h.after eq1 g hf.symm
            omega
      · omega
    have hle' := hle _ (h.H.mem_iff.2 (List.mem_map.2 ⟨q, List.mem_filter.2 ⟨hqm, hqB⟩, rfl⟩))
    rw [← hpe] at hle'
    obtain ⟨_, g2, g3⟩ := En.same hle' hqle
    have hpq' : p = q := h.uniq hpm hqm g2 g3
    subst hpq'
    have hgo : x.goes = some b' := by unfold Ln.goes; rw [hb']
    have hadv : x.adv = ⟨x.now + 1, x.fl, l1 ++ beg x.now p :: l2, x.began ++ [l1.length]⟩ := by
      unfold Ln.adv Ln.begins
      rw [if_neg (by rw [hbz]; decide), hgo]
      simp only [hi]
      rw [eq1, modify_at]
    rw [hadv] at hod ⊢
    have ef : e.flow = p.flow := by rw [← hpe]; rfl
    have hkp : p.flow.toNat = k := by omega
    refine h.begs eq1 hE (fun _ => ps) hod rfl rfl rfl ?_ (.inl ⟨p0, f, by rw [hkp]; exact hf, by rw [hkp]⟩) ?_ ?_
    · show s.G ++ [_] = s.G ++ [_]
      rw [← hpe]
      show s.G ++ [⟨p.flow, p.seq, p.size, toTick p.ready, s.now, false, false⟩] = _
      rw [toTick_of hE.2.2.1]
    · show H'.Perm _
      have hH' := h.H
      rw [eq1, List.filter_append, List.filter_cons_of_pos hpB, List.map_append, List.map_cons, hpe] at hH'
      rw [List.filter_append, List.map_append]
      exact List.Perm.cons_inv (hP.symm.trans (hH'.trans List.perm_middle))
    · show s.O = _
      rw [h.O, eq1, List.filter_append, List.filter_append, List.filter_cons_of_neg (by rw [othB_iff]; omega)]
end
end Go.Proofs.YtcnmajndackohaaGreatDoor
/-
  Plain: what bounds a line's numbers; ticks.
-/
namespace Go.Proofs.YtcnmajndackohaaGreatDoor
theorem nodup_le : ∀ (n : Nat) (l : List Nat), l.Nodup → (∀ i ∈ l, i < n) → l.length ≤ n
  | 0, l, _, h => by
    cases l with
    | nil => exact Nat.le_refl _
    | cons a l => exact absurd (h a (by simp)) (by omega)
  | n + 1, l, hd, h => by
    have e := nodup_le n (l.erase n) (hd.erase n) (fun i hi => by
      have h1 := (List.Nodup.mem_erase_iff hd).1 hi
      have := h i h1.2
      omega)
    have : l.length ≤ (l.erase n).length + 1 := by
      rw [List.length_erase]
      split <;> omega
    omega
theorem nd_le {x : Ln} (h : Lnv x) (hd : x.began.Nodup) : x.began.length ≤ x.pk.length :=
  nodup_le _ _ hd fun i hi => by
    obtain ⟨p, e, _⟩ := h.bg i hi
    exact (List.getElem?_eq_some_iff.1 e).1
/-- What bounds a line's numbers. -/
structure Lbn (x : Ln) : Prop where
  now : x.now ≤ 100000000000
  pk : x.pk.length ≤ 4000000
  fl : x.fl.length ≤ 4000000000
  rd : ∀ p ∈ x.pk, p.ready ≤ 100000000000
section
variable {x : Ln} {s : PS} {rel : Int → Int}
theorem toTick_nonneg (r : Int) : 0 ≤ toTick r := by unfold toTick never; split <;> omega
theorem Sim.lt (h : Sim x s rel) {k : Nat} {f : FS} (hf : s.fs k = some f) : k < x.fl.length := by
  obtain ⟨st, h1, _⟩ := h.val k f hf
  exact (List.getElem?_eq_some_iff.1 h1).1
theorem Sim.Hlen (h : Sim x s rel) : s.H.length ≤ x.pk.length := by
  rw [h.H.length_eq, List.length_map]; exact List.length_filter_le _ _
theorem Sim.rgo (h : Sim x s rel) (b : Lbn x) : Rgo s := by
  refine ⟨?_, ?_, ?_, ?_, ?_, ?_⟩
  · have := h.Hlen; have := b.pk; omega
  · rw [h.now]; exact h.inv.n0
  · rw [h.now]; have := b.now; omega
  · intro k f hf
    obtain ⟨st, h1, h2, _⟩ := h.val k f hf
    obtain ⟨_, _, _, _, _, _, _, d0, d1⟩ := h.inv.may st (List.mem_of_getElem? h1)
    rw [h2]
    have : 2 ≤ st.f.s := by assumption
    omega
  · intro k f hf p _
    exact toTick_nonneg _
  · intro k f hf
    obtain ⟨st, _, _, _, _, _, h6, _⟩ := h.val k f hf
    rw [h6]
    have h1 := List.length_filter_le (hdB k (rel k)) x.pk
    have := b.pk
    omega
theorem Sim.Glen (h : Sim x s rel) : s.G.length ≤ x.pk.length := by
  obtain ⟨B, hB⟩ := h.od
  have h1 := nd_le h.inv hB.nd
  rw [h.G]
  unfold untoldL
  have h2 := List.length_filter_le (fun p : Pk => !p.told) (x.began.filterMap fun i => x.pk[i]?)
  have h3 := List.length_filterMap_le (fun i => x.pk[i]?) x.began
  omega
theorem Sim.wait_le (_h : Sim x s rel) (k : Int) : x.waiting k ≤ x.pk.length := List.countP_le_length
theorem Sim.bgo (h : Sim x s rel) (b : Lbn x) : Bgo s := by
  have r := h.rgo b
  refine ⟨?_, r.n0, r.n1, r.h, ?_, ?_, ?_, ?_, ?_, ?_⟩
  · have := h.Glen; have := b.pk; omega
  · intro e he
    obtain ⟨p, hp, rfl⟩ := List.mem_map.1 (h.H.mem_iff.1 he)
    obtain ⟨hpm, hpB⟩ := List.mem_filter.1 hp
    obtain ⟨p0, pw, _⟩ := (quB_iff _ _).1 hpB
    have his := h.aw p hpm p0 pw
    have hlt := h.inv.own p hpm p0
    have hk : p.flow = ((p.flow.toNat : Nat) : Int) := by omega
    obtain ⟨f, hf⟩ := (h.dom p.flow.toNat).2 ⟨x.fl[p.flow.toNat], List.getElem?_eq_getElem hlt, by
      rw [hk, is_at (List.getElem?_eq_getElem hlt)] at his; exact his⟩
    exact ⟨_, f, hk, hf⟩
  · intro k f hf
    obtain ⟨st, _, _, _, _, h5, _⟩ := h.val k f hf
    have h1 := h.wait_le k
    have := b.pk
    rw [h5]
    omega
  · intro k f hf
    have := h.lt hf
    have := b.fl
    omega
  · intro e he
    obtain ⟨p, hp, rfl⟩ := List.mem_map.1 (h.H.mem_iff.1 he)
    exact h.inv.sz p (List.mem_filter.1 hp).1
  · intro p hp
    rw [h.O] at hp
    exact h.inv.sz p (List.mem_filter.1 hp).1
  · rw [h.O]
    have h1 := List.length_filter_le othB x.pk
    have := b.pk
    omega
theorem ticks_succ : ∀ (n : Nat) (x : Ln), x.ticks (n + 1) = (x.ticks n).tick
  | 0, _ => rfl
  | n + 1, x => by
    show x.tick.ticks (n + 1) = (x.tick.ticks n).tick
    exact ticks_succ n x.tick
theorem away_fl (x : Ln) : x.away.fl.length = x.fl.length := by
  unfold Ln.away
  split
  · rfl
  · simp
theorem begins_fl (x : Ln) : x.begins.fl = x.fl := by
  unfold Ln.begins
  split
  · rfl
  · split <;> rfl
theorem tick_fl (x : Ln) : x.tick.fl.length = x.fl.length := by
  show x.away.begins.fl.length = _
  rw [begins_fl, away_fl]
theorem ticks_fls : ∀ (n : Nat) (x : Ln), (x.ticks n).fl.length = x.fl.length
  | 0, _ => rfl
  | n + 1, x => by
    show (x.tick.ticks n).fl.length = _
    rw [ticks_fls n, tick_fl]
theorem away_bnd (b : Lbn x) : Lbn x.away := by
  refine ⟨?_, ?_, by rw [away_fl]; exact b.fl, ?_⟩
  · unfold Ln.away; split <;> exact b.now
  · unfold Ln.away; split <;> exact b.pk
  · unfold Ln.away; split <;> exact b.rd
theorem sk_ready {l m : List Pk} (h : l.map Pk.sk = m.map Pk.sk) {c : Int} (hm : ∀ p ∈ m, p.ready ≤ c) : ∀ p ∈ l, p.ready ≤ c := by
  intro p hp
  have : p.sk ∈ m.map Pk.sk := by rw [← h]; exact List.mem_map.2 ⟨p, hp, rfl⟩
  obtain ⟨q, hq, e⟩ := List.mem_map.1 this
  have : q.ready = p.ready := congrArg Sk.ready e
  rw [← this]; exact hm q hq
theorem Lbn.ticks (b : Lbn x) (hn : x.now ≤ 50000000000) {i : Nat} (hi : i ≤ 1000) : Lbn (x.ticks i) := by
  obtain ⟨h1, h2, _⟩ := ticks_sk i x
  refine ⟨by rw [h1]; omega, ?_, by rw [ticks_fls]; exact b.fl, sk_ready h2 b.rd⟩
  have := congrArg List.length h2
  rw [List.length_map, List.length_map] at this
  rw [this]; exact b.pk
/-- One tick. -/
theorem Sim.tick (h : Sim x s rel) (hr : Rld s) {s' : PS} (hb : Beg s.settle s') : Sim x.tick { s' with now := s.now + 1 } rel := by
  obtain ⟨h1, h2⟩ := h.settle hr
  obtain ⟨B, hB⟩ := h.od
  have hod := od_tick hB
  obtain ⟨C, hC⟩ := hod
  have hn : s.settle.now = s.now := by unfold PS.settle; split <;> rfl
  have := h1.adv h2 hb ⟨B ++ C, by rw [← tick_adv]; exact hC⟩
  rw [hn] at this
  exact this
end
end Go.Proofs.YtcnmajndackohaaGreatDoor
