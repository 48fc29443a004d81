import Derived.Test.YtcnmajndackohaaGreatDoorLateMg23
import Derived.Deep.LoopGhost
/-
  What the program's begin does, whole.
-/
namespace Go.Proofs.YtcnmajndackohaaGreatDoor
open Go.RowKit

set_option maxRecDepth 100000 in
set_option maxHeartbeats 2000000 in
theorem pbegin_busy (w : World) (P : Nat) (s : PS) (h : PM w P s) (hbz : s.busy = true) (hG : s.G.length ≤ 1000000000) :
    Calls Tryz.prog 92 #[.pointer (some ⟨s.Q, 0, none⟩)] w fun e w' => e = .returned (.tuple #[]) ∧ PTo w P s w' s := by
  have HB := hide (pbusyD w P s h.toPN hG)
  rw [hbz] at HB
  have HH := hide h
  clear h hbz hG
  go_enter Tryz.func92, Tryz.ntmps92
  go_wp2_with fail
  refine (unhide HB).mono ?_
  rintro e w1 ⟨rfl, m, rfl⟩
  clear HB
  go_wp2_with fail
  refine bodyPost_ret (results_none rfl _ _ _) rfl ?_
  exact ⟨rfl, (PTo.refl (unhide HH)).below (drewN_bel (Below.refl _ _) m)⟩
set_option maxRecDepth 100000 in
set_option maxHeartbeats 2000000 in
theorem pbegin_idle (w : World) (P : Nat) (s : PS) (h : PM w P s) (hbz : s.busy = false) (hG : s.G.length ≤ 1000000000) (hH : s.H = []) (hO : s.O = []) :
    Calls Tryz.prog 92 #[.pointer (some ⟨s.Q, 0, none⟩)] w fun e w' => e = .returned (.tuple #[]) ∧ PTo w P s w' s := by
  have HB := hide (pbusyD w P s h.toPN hG)
  rw [hbz] at HB
  have HH := hide h
  have HNx := hide (fun m => pnext_none (w.drewN m) P s (h.below (drewN_bel (Below.refl _ _) m)) hH hO)
  clear h hbz hG hH hO
  go_enter Tryz.func92, Tryz.ntmps92
  go_wp2_with fail
  refine (unhide HB).mono ?_
  rintro e w1 ⟨rfl, m, rfl⟩
  clear HB
  go_wp2_with fail
  refine (unhide HNx m).mono ?_
  rintro e w2 ⟨rfl, hb2⟩
  have HB2 := hide hb2
  clear hb2 HNx
  go_wp2_with fail
  refine bodyPost_ret (results_none rfl _ _ _) rfl ?_
  exact ⟨rfl, ((PTo.refl (unhide HH)).below (drewN_bel (Below.refl _ _) m)).below (unhide HB2) |>.below (bel_one _)⟩
/-- What begin asks of a line. -/
structure Bgo (s : PS) : Prop where
  g : s.G.length ≤ 1000000000
  n0 : 0 ≤ s.now
  n1 : s.now ≤ 1000000000000
  h : s.H.length ≤ 4000000
  fl : ∀ e ∈ s.H, ∃ (k : Nat) (f : FS), e.flow = (k : Int) ∧ s.fs k = some f
  wa : ∀ k f, s.fs k = some f → -1000000000 ≤ f.wa ∧ f.wa ≤ 1000000000
  k1 : ∀ k f, s.fs k = some f → (k : Int) ≤ 9223372036854775807
  hs : ∀ e ∈ s.H, 1 ≤ e.size ∧ e.size ≤ 8
  os : ∀ p ∈ s.O, 1 ≤ p.size ∧ p.size ≤ 8
  ol : s.O.length ≤ 1000000000
theorem pbegin (w : World) (P : Nat) (s : PS) (h : PM w P s) (b : Bgo s) :
    Calls Tryz.prog 92 #[.pointer (some ⟨s.Q, 0, none⟩)] w fun e w' => e = .returned (.tuple #[]) ∧ ∃ s', Beg s s' ∧ PTo w P s w' s' := by
  cases hbz : s.busy with
  | true => exact (pbegin_busy w P s h hbz b.g).mono fun e w' ⟨h1, h2⟩ => ⟨h1, s, .inl ⟨.inl hbz, rfl⟩, h2⟩
  | false =>
    by_cases hH : s.H = []
    · cases hO : s.O with
      | nil => exact (pbegin_idle w P s h hbz b.g hH hO).mono fun e w' ⟨h1, h2⟩ => ⟨h1, s, .inl ⟨.inr ⟨hH, hO⟩, rfl⟩, h2⟩
      | cons p tl =>
        have hl : tl.length ≤ 1000000000 := by have := b.ol; rw [hO] at this; simp at this; omega
        have hp := b.os p (by rw [hO]; exact List.mem_cons_self ..)
        refine (pbegin_rest w P s h hbz b.g ⟨b.n0, b.n1⟩ (fun s1 fl sq sz rd => (fl = p.flow ∧ sq = p.seq ∧ sz = p.size ∧ rd = toTick p.ready) ∧ ∃ v', s1 = { s with O := tl, vo := v' }) (fun m => ?_)).mono ?_
        · refine (pnext_other (w.drewN m) P s (h.below (drewN_bel (Below.refl _ _) m)) hH p tl hO hl).mono ?_
          rintro e w' ⟨h1, v', h2⟩
          exact ⟨_, _, _, _, _, h1, hp, h2, ⟨⟨rfl, rfl, rfl, rfl⟩, v', rfl⟩, rfl, rfl⟩
        · rintro e w' ⟨h1, s1, fl, sq, sz, rd, vb, o, ⟨⟨rfl, rfl, rfl, rfl⟩, v', rfl⟩, h2⟩
          exact ⟨h1, _, .inr (.inl ⟨hbz, hH, p, tl, v', vb, o, hO, rfl⟩), h2⟩
    · have h0 : 0 < s.H.length := List.length_pos_iff.2 hH
      refine (pbegin_rest w P s h hbz b.g ⟨b.n0, b.n1⟩ (fun s1 fl sq sz rd => ∃ (x : En) (H' : List En) (v' : Value) (o' : Whose) (k : Nat) (f : FS), (fl = x.flow ∧ sq = x.seq ∧ sz = x.size ∧ rd = x.ready) ∧ s.H.Perm (x :: H') ∧ (∀ y ∈ s.H, x.le y) ∧ x.flow = (k : Int) ∧ s.fs k = some f ∧
        s1 = { s with H := H', vr := v', o := o', fs := upd s.fs k { f with wa := f.wa - 1 } }) (fun m => ?_)).mono ?_
      · refine (pnext_flow (w.drewN m) P s (h.below (drewN_bel (Below.refl _ _) m)) h0 b.h b.fl b.wa b.k1).mono ?_
        rintro e w' ⟨x, H', v', o', k, f, h1, h2, h3, h4, h5, h6⟩
        exact ⟨_, _, _, _, _, h1, b.hs x (h2.mem_iff.2 (List.mem_cons_self ..)), h6, ⟨x, H', v', o', k, f, ⟨rfl, rfl, rfl, rfl⟩, h2, h3, h4, h5, rfl⟩, rfl, rfl⟩
      · rintro e w' ⟨h1, s1, fl, sq, sz, rd, vb, o, ⟨x, H', v', o', k, f, ⟨rfl, rfl, rfl, rfl⟩, h2, h3, h4, h5, rfl⟩, h6⟩
        exact ⟨h1, _, .inr (.inr ⟨hbz, x, H', v', vb, o, k, f, h2, h3, h4, h5, rfl⟩), h6⟩
end Go.Proofs.YtcnmajndackohaaGreatDoor
/-
  What the program's settle does: flows that linger are away, if nothing of any flow is ready or under way.
-/
namespace Go.Proofs.YtcnmajndackohaaGreatDoor
open Go.RowKit

/-- What is left of the flows while they are gone through: those that do not linger, or are still to come. -/
def fsL (fs : Nat → Option FS) (left : Nat → Bool) : Nat → Option FS := fun k => (fs k).bind fun f => if f.torn && !left k then none else some f
theorem fsL_start (fs : Nat → Option FS) : fsL fs (fun k => (adrs fs k).isSome) = fs := by
  funext k
  unfold fsL adrs
  cases h : fs k <;> simp [h]
theorem fsL_sub {fs : Nat → Option FS} {left : Nat → Bool} {k : Nat} {f : FS} (h : fsL fs left k = some f) : fs k = some f := by
  unfold fsL at h
  cases hk : fs k with
  | none => rw [hk] at h; cases h
  | some g =>
    rw [hk] at h
    simp only [Option.bind_some] at h
    split at h
    · cases h
    · exact h
theorem fsL_struck {fs : Nat → Option FS} {left : Nat → Bool} {k : Nat} {f : FS} (hk : fs k = some f) (ht : f.torn = true) : (fun j => if j = k then none else adrs (fsL fs left) j) = adrs (fsL fs (fun j => left j && !decide (j = k))) := by
  funext j
  by_cases e : j = k
  · subst e
    unfold adrs fsL
    simp [hk, ht]
  · unfold adrs fsL
    simp [e]
theorem fsL_stays {fs : Nat → Option FS} {left : Nat → Bool} {k : Nat} {f : FS} (hk : fs k = some f) (ht : f.torn = false) : fsL fs (fun j => left j && !decide (j = k)) = fsL fs left := by
  funext j
  by_cases e : j = k
  · subst e
    unfold fsL
    simp [hk, ht]
  · unfold fsL
    simp [e]
theorem strike2 (left : Nat → Bool) (k : Nat) : (fun j => (left j && !decide (j = k)) && !decide (j = k)) = fun j => left j && !decide (j = k) := by
  funext j
  cases left j <;> simp
section
variable {w w' : World} {P : Nat} {s : PS} {S : Nat → Prop}
theorem PN.keepM (h : PN w P s) (ho : Only S w w') (hs : ∀ i, S i → s.o i = 0 ∨ s.o i = 3) : PN w' P s := by
  have ne : ∀ (c : Nat), c ≠ 0 → c ≠ 3 → ∀ i, S i → s.o i ≠ c := fun c h0 h3 i hi e => by have := hs i hi; omega
  exact ⟨fun i hi => h.free i (Nat.le_trans ho.size hi), h.inn.only ho (fun g => ne 2 (by decide) (by decide) _ g h.oQ), h.oQ, h.oM, h.rd.keep h.ord ho (ne 4 (by decide) (by decide)), h.ord,
    h.ot.keep ho (ne 5 (by decide) (by decide)) (fun _ _ => rfl), h.be.keep ho (ne 6 (by decide) (by decide)) (fun _ _ => rfl), fun k f hf => (h.fl k f hf).keep ho (fun i hi => ⟨ne _ (by omega) (by omega) i hi, ne _ (by omega) (by omega) i hi⟩) (fun _ _ => rfl), h.hp⟩
theorem PN.sub (h : PN w P s) {fs : Nat → Option FS} (hf : ∀ k f, fs k = some f → s.fs k = some f) : PN w P { s with fs := fs } :=
  ⟨h.free, h.inn, h.oQ, h.oM, h.rd, h.ord, h.ot, h.be, fun k f hk => h.fl k f (hf k f hk), h.hp⟩
end
/-- The line behind it. -/
def PS.settle (s : PS) : PS := if 0 < s.H.length ∨ s.carries = true then s else { s with fs := fsL s.fs fun _ => false }
set_option maxRecDepth 100000 in
set_option maxHeartbeats 2000000 in
theorem psettle_stay (w : World) (P : Nat) (s : PS) (h : PM w P s) (hG : s.G.length ≤ 1000000000) (hx : 0 < s.H.length ∨ s.carries = true) :
    Calls Tryz.prog 91 #[.pointer (some ⟨s.Q, 0, none⟩)] w fun e w' => e = .returned (.tuple #[]) ∧ PTo w P s w' s := by
  obtain ⟨ar, cr, hr⟩ := h.rdLen
  have c3 := h.c3
  rw [hr] at c3
  have HC := hide (pcarriesD w P s h.toPN hG)
  have HH := hide h
  by_cases h0 : 0 < s.H.length
  · have h0' : (0 : Int) < (s.H.length : Int) := by omega
    clear h hr hG hx HC
    go_enter Tryz.func91, Tryz.ntmps91
    go_wp2_with fail
    refine bodyPost_ret (results_none rfl _ _ _) rfl ?_
    exact ⟨rfl, PTo.refl (unhide HH)⟩
  · have hc : s.carries = true := hx.resolve_left h0
    have hz : s.H.length = 0 := by omega
    rw [hz] at c3
    rw [hc] at HC
    clear h hr hG hx hc h0 hz
    go_enter Tryz.func91, Tryz.ntmps91
    go_wp2_with fail
    refine (unhide HC).mono ?_
    rintro e w1 ⟨rfl, m, rfl⟩
    clear HC
    go_wp2_with fail
    refine bodyPost_ret (results_none rfl _ _ _) rfl ?_
    exact ⟨rfl, (PTo.refl (unhide HH)).below (drewN_bel (Below.refl _ _) m)⟩
set_option maxRecDepth 100000 in
set_option maxHeartbeats 2000000 in
theorem psettle_go (w : World) (P : Nat) (s : PS) (h : PM w P s) (hG : s.G.length ≤ 1000000000) (hH : s.H.length = 0) (hc : s.carries = false) (hk1 : ∀ k f, s.fs k = some f → (k : Int) ≤ 9223372036854775807) :
    Calls Tryz.prog 91 #[.pointer (some ⟨s.Q, 0, none⟩)] w fun e w' => e = .returned (.tuple #[]) ∧ PTo w P s w' { s with fs := fsL s.fs fun _ => false } := by
  obtain ⟨ar, cr, hr⟩ := h.rdLen
  have c3 := h.c3
  rw [hr, hH] at c3
  have HC := hide (pcarriesD w P s h.toPN hG)
  rw [hc] at HC
  have HH := hide h
  have HK1 := hide hk1
  clear h hr hG hc hH hk1
  go_enter Tryz.func91, Tryz.ntmps91
  go_wp2_with fail
  refine (unhide HC).mono ?_
  rintro e W ⟨rfl, m, hW⟩
  have HT := hide (show PTo w P s W s from (PTo.refl (unhide HH)).below (by rw [hW]; exact drewN_bel (Below.refl _ _) m))
  have HM1 := hide (unhide HT).pm.map
  have c1 := (unhide HT).pm.c1
  have HSz := hide (show W.heap.size = w.heap.size by rw [hW]; rfl)
  clear HC hW c3
  go_wp2_with (at_range; refine wpList_range_F _ rfl _ rfl rfl (unhide HM1) ?_; intro w0 hrg0 hb0 hs0)
  go_frame
  have HB0 := hide hb0
  have HR0 := hide hrg0
  clear hrg0 hb0 hs0 c1 HM1
  go_loopw [2] (fun _ wr => ∃ left : Nat → Bool, PN wr P s ∧ RangeF wr s.M W.heap.size (adrs (fsL s.fs left)) left ∧ Only (fun i => i = s.M) W wr) (fun _ wr => wr.rangeLeft s.M W.heap.size)
  case atStart => exact ⟨_, (unhide HT).pm.toPN.keepM (S := fun _ => False) (Only.of_below (unhide HB0)) (fun _ k => k.elim), by rw [fsL_start]; exact unhide HR0, Only.of_below (unhide HB0)⟩
  case round =>
    obtain ⟨left, hPN, hR, hO⟩ := hrel
    have HPN := hide hPN
    have HR := hide hR
    have HO := hide hO
    clear hPN hR hO
    go_wp2_with (at_next; refine wpList_next_F _ rfl _ rfl rfl (unhide HR) ?_ ?_)
    · intro hl0
      have hle : left = fun _ => false := funext hl0
      go_wp2_with fail
      go_end0
      subst hle
      exact ⟨rfl, (unhide HT).trans ⟨⟨(unhide HPN).sub (fun k f hk => fsL_sub hk), (unhide HR).map⟩, (unhide HO).mono fun i _ e => by rw [e, (unhide HH).oM]; decide, fun _ _ => rfl, rfl⟩⟩
    · intro k b w1 hlk hmk hR1 hlt hO1 hsz hen
      have hfk : ∃ f, s.fs k = some f ∧ f.a = b := by
        unfold adrs at hmk
        obtain ⟨f, hf, hfa⟩ := Option.map_eq_some_iff.1 hmk
        exact ⟨f, fsL_sub hf, hfa⟩
      obtain ⟨f, hf, rfl⟩ := hfk
      have hPN1 := (unhide HPN).keepM hO1 (fun i e => .inl (by rw [e]; exact (unhide HT).pm.free _ (Nat.le_refl _)))
      have hOO := (unhide HO).trans hO1 (fun i hi e => by omega)
      have c15 := (hPN1.fl k f hf).c15
      have c1 := hPN1.c1
      have hk1 := unhide HK1 k f hf
      have HPN1 := hide hPN1
      have HO1 := hide hOO
      have HR1 := hide hR1
      have HF := hide hf
      have HLt := hide hlt
      clear hPN1 hOO hR1 hO1 hf hmk hlt
      cases ht : f.torn
      · rw [ht] at c15
        have HTo := hide ht
        clear ht
        go_wp2_with fail
        go_roundw
        case rel =>
          exact ⟨fun j => left j && !decide (j = k), unhide HPN1, by rw [fsL_stays (unhide HF) (unhide HTo)]; exact unhide HR1, unhide HO1⟩
        case measure => exact unhide HLt
      · rw [ht] at c15
        have HTo := hide ht
        clear ht
        go_wp2_with (at_delete; refine wpList_delete_F _ rfl _ _ rfl rfl (unhide HR1) k hk1 rfl ?_; intro w2 hR2 hle2 hO2 hs2; go_frame)
        go_roundw
        case rel =>
          refine ⟨fun j => left j && !decide (j = k), (unhide HPN1).keepM hO2 (fun i e => .inr (by rw [e]; exact (unhide HH).oM)), ?_, (unhide HO1).trans hO2 (fun i _ e => e)⟩
          rw [strike2] at hR2
          rw [← fsL_struck (unhide HF) (unhide HTo)]
          exact hR2
        case measure => exact Nat.lt_of_le_of_lt hle2 (unhide HLt)
theorem psettle (w : World) (P : Nat) (s : PS) (h : PM w P s) (hG : s.G.length ≤ 1000000000) (hk1 : ∀ k f, s.fs k = some f → (k : Int) ≤ 9223372036854775807) :
    Calls Tryz.prog 91 #[.pointer (some ⟨s.Q, 0, none⟩)] w fun e w' => e = .returned (.tuple #[]) ∧ PTo w P s w' s.settle := by
  unfold PS.settle
  by_cases hx : 0 < s.H.length ∨ s.carries = true
  · rw [if_pos hx]; exact psettle_stay w P s h hG hx
  · rw [if_neg hx]
    have h1 : ¬ 0 < s.H.length := fun e => hx (.inl e)
    have h2 : ¬ s.carries = true := fun e => hx (.inr e)
    exact psettle_go w P s h hG (by omega) (by simpa using h2) hk1
end Go.Proofs.YtcnmajndackohaaGreatDoor
/-
  What the program's release does: the packets that are ready at this tick go into the queue.
-/
namespace Go.Proofs.YtcnmajndackohaaGreatDoor
open Go.RowKit

theorem FS.set14 (f : FS) (v : Value) (L : List Pk) : f.cs.setIfInBounds 14 v = { f with vh := v, L := L }.cs := rfl
/-- What is held back of a flow, written. -/
theorem PM.setHeld {w : World} {P : Nat} {s : PS} (h : PM w P s) {k : Nat} {f : FS} (hf : s.fs k = some f) {v : Value} {L : List Pk} (hv : Ow w s.o (8 + 2 * k) 118 4 v L.length (hcells L)) : PTo w P s (w.setCell ⟨f.a, 14, none⟩ v) { s with fs := upd s.fs k { f with vh := v, L := L } } := by
  have hfm := h.fl k f hf
  have hO : Only (fun i => i = f.a) w (w.setCell ⟨f.a, 14, none⟩ v) := only_set w f.a 14 _
  have hq : ∀ i, i = f.a → s.o i = 7 + 2 * k := fun i e => by rw [e]; exact hfm.ob
  have hI := hfm.blk.set 14 v
  rw [FS.set14 f v L] at hI
  refine ⟨h.flowTo hf (hO.mono fun i _ e => .inl (hq i e)) (fun _ _ => rfl) (fun i hi => h.free i (Nat.le_trans hO.size hi)) ⟨hI, hfm.ob, ?_⟩ rfl, hO.mono fun i _ e => by rw [hq i e]; omega, fun _ _ => rfl, rfl⟩
  exact hv.keep hO (fun i e => by rw [hq i e]; omega) (fun _ _ => rfl)
/-- The entry of a packet. -/
def enP (p : Pk) (d : Int) : En := ⟨p.flow, p.seq, p.size, toTick p.ready, toTick p.ready + d⟩
/-- One packet goes into the queue. -/
def Rel1 (s s' : PS) : Prop := ∃ (k : Nat) (f : FS) (p : Pk) (tl : List Pk) (v vh : Value) (o : Whose) (H : List En), s.fs k = some f ∧ f.L = p :: tl ∧ toTick p.ready ≤ s.now ∧ HeapN H H.length ∧ H.Perm (enP p f.f.d :: s.H) ∧
  s' = { s with H := H, vr := v, o := o, fs := upd s.fs k { f with vh := vh, L := tl } }
/-- What release asks of a line. -/
structure Rgo (s : PS) : Prop where
  h : s.H.length ≤ 4000000
  n0 : 0 ≤ s.now
  n1 : s.now ≤ 1000000000000
  d : ∀ k f, s.fs k = some f → 0 ≤ f.f.d ∧ f.f.d ≤ 100
  rd : ∀ k f, s.fs k = some f → ∀ p ∈ f.L, 0 ≤ toTick p.ready
  ll : ∀ k f, s.fs k = some f → f.L.length ≤ 1000000000
theorem FM.hlLen {w : World} {o : Whose} {k : Nat} {f : FS} (h : FM w o k f) : ∃ a c, f.vh = .slice a f.L.length c := by
  rcases h.hl.1.2 with ⟨e1, e2⟩ | ⟨g, off, cap, cur, e1, _⟩
  · exact ⟨none, 0, by rw [e1, e2]⟩
  · exact ⟨_, _, e1⟩
/-- What of a line stays. -/
structure Stay (s s' : PS) : Prop where
  m : s'.M = s.M
  n : s'.now = s.now
  a : adrs s'.fs = adrs s.fs
theorem Stay.refl (s : PS) : Stay s s := ⟨rfl, rfl, rfl⟩
theorem Stay.trans {a b c : PS} (h : Stay a b) (k : Stay b c) : Stay a c := ⟨k.m.trans h.m, k.n.trans h.n, k.a.trans h.a⟩
/-- Behind the head's being taken out of what is held back, and lying in a block of its own. -/
theorem PTo.taken {w W : World} {P : Nat} {s t : PS} (h : PTo w P s W t) {k : Nat} {f : FS} (hf : t.fs k = some f) {tl : List Pk} {vt : Value} (hv : World.offRow W 118 4 vt tl.length (hcells tl)) (hg : ∀ g, vt.ownBlock = some g → f.vh.ownBlock = some g) (cs : Array Value) :
    PTo w P s ((W.setCell ⟨f.a, 14, none⟩ vt).alloc (.cells cs 118)) { t with fs := upd t.fs k { f with vh := vt, L := tl } } ∧ Only (fun i => i = f.a) W ((W.setCell ⟨f.a, 14, none⟩ vt).alloc (.cells cs 118)) :=
  ⟨(h.trans (h.pm.setHeld hf ⟨hv, fun g hg' => (h.pm.fl k f hf).hl.2 g (hg g hg')⟩)).below (bel_one _), (only_set _ _ _ _).alloc _⟩
theorem World.offRow.drewN {w : World} {t : TypeId} {size n : Nat} {v : Value} {xs : List Value} (h : World.offRow w t size v n xs) (m : Nat) : World.offRow (w.drewN m) t size v n xs := h
theorem RangeF.drewN {w : World} {M r : Nat} {m : Nat → Option Nat} {left : Nat → Bool} (h : RangeF w M r m left) (n : Nat) : RangeF (w.drewN n) M r m left := (h.of_blocks (w' := w.drewN n) rfl rfl).1
set_option maxRecDepth 100000 in
set_option maxHeartbeats 4000000 in
theorem prelease (w : World) (P : Nat) (s : PS) (h : PM w P s) (J : PS → Prop) (hJ0 : J s) (hJ : ∀ a b, J a → Rel1 a b → J b) (hJg : ∀ a, J a → Rgo a) :
    Calls Tryz.prog 90 #[.pointer (some ⟨s.Q, 0, none⟩)] w fun e w' => e = .returned (.tuple #[]) ∧ ∃ s', J s' ∧ PTo w P s w' s' ∧ Stay s s' ∧ ∀ k f p tl, s'.fs k = some f → f.L = p :: tl → s.now < toTick p.ready := by
  have HH := hide h
  have HJ0 := hide hJ0
  have HJ := hide hJ
  have HJg := hide hJg
  have c1 := h.c1
  have HM1 := hide h.map
  clear h hJ0 hJ hJg
  go_enter Tryz.func90, Tryz.ntmps90
  go_wp2_with (at_range; refine wpList_range_F _ rfl _ rfl rfl (unhide HM1) ?_; intro w0 hrg0 hb0 hs0)
  go_frame
  have HB0 := hide hb0
  have HR0 := hide hrg0
  clear hrg0 hb0 hs0 c1 HM1
  go_loopw [3] (fun _ wr => ∃ (left : Nat → Bool) (t : PS), J t ∧ PTo w P s wr t ∧ Stay s t ∧ t.o w.heap.size = 0 ∧ RangeF wr s.M w.heap.size (adrs s.fs) left ∧ ∀ k f p tl, t.fs k = some f → left k = false → f.L = p :: tl → s.now < toTick p.ready) (fun _ wr => wr.rangeLeft s.M w.heap.size)
  case atStart =>
    refine ⟨_, s, unhide HJ0, (PTo.refl (unhide HH)).below (unhide HB0), Stay.refl s, (unhide HH).free _ (Nat.le_refl _), unhide HR0, fun k f p tl hk hl => ?_⟩
    simp [adrs, hk] at hl
  case round =>
    obtain ⟨left, t, hJt, hT, hS, hr0, hR, hD⟩ := hrel
    have HR00 := hide hr0
    have HJt := hide hJt
    have HT := hide hT
    have HS := hide hS
    have HR := hide hR
    have HD := hide hD
    clear hJt hT hS hR hD hr0
    go_wp2_with (at_next; refine wpList_next_F _ rfl _ rfl rfl (unhide HR) ?_ ?_)
    · intro hl0
      go_wp2_with fail
      go_end0
      exact ⟨rfl, t, unhide HJt, unhide HT, unhide HS, fun k f p tl hk hL => unhide HD k f p tl hk (hl0 k) hL⟩
    · intro k b w1 hlk hmk hR1 hlt hO1 hsz hen
      have hfk : ∃ f, t.fs k = some f ∧ f.a = b := by
        have e := congrFun (unhide HS).a k
        rw [hmk] at e
        unfold adrs at e
        exact Option.map_eq_some_iff.1 e
      obtain ⟨f0, hf0, rfl⟩ := hfk
      have hT1 := (unhide HT).keepNew hO1 (fun i e => by subst e; exact ⟨unhide HR00, Nat.le_refl _⟩)
      have HT1 := hide hT1
      have HR1 := hide hR1
      have HLt := hide hlt
      have HF0 := hide hf0
      have HEn := hide hen
      clear hT1 hR1 hlt hf0 hO1 hsz hmk HT HR HR0
      go_wp2_with fail
      clear hen
      go_loopg [4] (f0.L.length + 1) (fun n _ wr2 => ∃ (t2 : PS) (f2 : FS), J t2 ∧ PTo w P s wr2 t2 ∧ Stay s t2 ∧ t2.o w.heap.size = 0 ∧ RangeF wr2 s.M w.heap.size (adrs s.fs) (fun j => left j && !decide (j = k)) ∧ wr2.rangeLeft s.M w.heap.size = w1.rangeLeft s.M w.heap.size ∧ t2.fs k = some f2 ∧ f2.a = f0.a ∧ f2.L.length < n ∧
        ∀ j f p tl, t2.fs j = some f → ¬ j = k → left j = false → f.L = p :: tl → s.now < toTick p.ready)
      case atStart => exact ⟨t, f0, unhide HJt, unhide HT1, unhide HS, unhide HR00, unhide HR1, rfl, unhide HF0, rfl, by omega, fun j f p tl h1 _ h2 h3 => unhide HD j f p tl h1 h2 h3⟩
      case round =>
        obtain ⟨t2, f2, hJ2, hT2, hS2, hr2, hR2, hL2, hf2, ha2, hn2, hD2⟩ := hrel
        have hfm := hT2.pm.fl k f2 hf2
        have c0 : wr.cell? ⟨s.Q, 0, none⟩ = some (.int .i64 s.now) := by rw [← hT2.q, ← hS2.n]; exact hT2.pm.c0
        obtain ⟨av, cv, hvh⟩ := hfm.hlLen
        have c14 := hfm.c14
        rw [ha2, hvh] at c14
        have HJ2 := hide hJ2
        have HT2 := hide hT2
        have HS2 := hide hS2
        have HR2 := hide hR2
        have HL2 := hide hL2
        have HF2 := hide hf2
        have HA2 := hide ha2
        have HN2 := hide hn2
        have HD2 := hide hD2
        have Hr2 := hide hr2
        have HFm := hide hfm
        have HOut := hide (show (∀ p tl, f2.L = p :: tl → s.now < toTick p.ready) → ∀ n, ∃ (left : Nat → Bool) (t : PS), J t ∧ PTo w P s (wr.drewN n) t ∧ Stay s t ∧ t.o w.heap.size = 0 ∧ RangeF (wr.drewN n) s.M w.heap.size (adrs s.fs) left ∧ ∀ k f p tl, t.fs k = some f → left k = false → f.L = p :: tl → s.now < toTick p.ready from fun hh n => by
          refine ⟨_, t2, hJ2, hT2.below (drewN_bel (Below.refl _ _) n), hS2, hr2, hR2.drewN n, fun j f p tl h1 h2 h3 => ?_⟩
          by_cases hjk : j = k
          · subst hjk
            rw [hf2] at h1
            obtain rfl := Option.some.inj h1
            exact hh p tl h3
          · refine hD2 j f p tl h1 hjk ?_ h3
            simpa [hjk] using h2)
        cases hL : f2.L with
        | nil =>
          rw [hL] at c14
          have HO := hide (unhide HOut (fun p tl e => by rw [hL] at e; cases e))
          clear hJ2 hT2 hS2 hr2 hR2 hL2 hf2 ha2 hn2 hD2 hfm hvh hL HOut
          go_wp2_with fail
          go_quiet (fail)
          go_wp2_with fail
          go_roundw
          case rel => exact unhide HO _
          case measure => exact Nat.lt_of_le_of_lt (Nat.le_of_eq (unhide HL2)) (unhide HLt)
        | cons p tl =>
          rw [hL] at c14 hvh
          have hhl := hfm.hl.1
          rw [hL] at hhl
          obtain ⟨g, off, cap, hv, hg, hc1, hc2, hcell⟩ := off_form (n := tl.length) hhl
          rw [← hvh, hv] at c14
          have d3 := hcell 3 _ rfl
          have hln : (0 : Int) < (tl.length : Int) + 1 := by omega
          by_cases hle : toTick p.ready ≤ s.now
          · have hRg := unhide HJg t2 hJ2
            have hrd0 := hRg.rd k f2 hf2 p (by rw [hL]; exact List.mem_cons_self ..)
            have hd0 := hRg.d k f2 hf2
            have hHl := hRg.h
            have hHn := hRg.n1
            have hnow := hS2.n
            rw [hv] at hhl
            obtain ⟨vt, HVT, ht1, ht2⟩ : ∃ vt, Hid (vt = tlV g off 4 tl.length cap) ∧ World.offRow wr 118 4 vt tl.length (hcells tl) ∧ ∀ g', vt.ownBlock = some g' → g' = g := tail_form (hd := hcs p) hhl rfl
            have d0 := hcell 0 _ rfl
            have d1 := hcell 1 _ rfl
            have d2 := hcell 2 _ rfl
            rw [Nat.add_zero] at d0
            have HTk := hide (fun nq => ((unhide HT2).below (drewN_bel (Below.refl _ _) nq)).taken (unhide HF2) (tl := tl) (vt := vt) (World.offRow.drewN ht1 nq) (fun g' hg' => by rw [hv, ht2 g' hg']; rfl) #[.int .i64 p.flow, .int .i64 p.seq, .int .i64 p.size, .int .i64 (toTick p.ready)])
            have HR3 := hide (fun nq => hR2.drewN nq)
            have HLe := hide hle
            have HLL := hide hL
            have HTl := hide (show tl.length < gk - 1 ∨ tl.length + 1 < gk from .inr (by rw [hL] at hn2; simpa using hn2))
            have cA : ∀ (b j : Nat), b < wr.heap.size → ∀ nq ob, ((wr.drewN nq).alloc ob).cell? ⟨b, j, none⟩ = wr.cell? ⟨b, j, none⟩ := fun b j hb nq ob => World.cell?_alloc_past ob b j hb
            have hab : f0.a < wr.heap.size := by rw [← ha2]; exact hfm.blk.lt
            have z14 : wr.frozen? ⟨f0.a, 14, none⟩ = false := by rw [← ha2]; exact hfm.blk.frozen 14
            have hcap : (tl.length : Int) + 1 ≤ (cap : Int) := by omega
            unfold maxLen at hc2
            generalize hrdy : toTick p.ready = rdy at *
            have HRdy := hide hrdy
            clear hJ2 hT2 hS2 hr2 hR2 hL2 hf2 ha2 hn2 hD2 hfm hvh hL HOut hv hhl hcell hc1 ht1 ht2 hRg hrdy
            go_wp2_with fail
            go_quiet (fail)
            have c14A := fun ob => (cA f0.a 14 hab nq ob).trans c14
            have z14A : (wr.drewN nq).frozen? ⟨f0.a, 14, none⟩ = false := z14
            have d0A : (wr.drewN nq).cell? ⟨g, off, none⟩ = some (.int .i64 p.flow) := d0
            have d1A : (wr.drewN nq).cell? ⟨g, off + 1, none⟩ = some (.int .i64 p.seq) := d1
            have d2A : (wr.drewN nq).cell? ⟨g, off + 2, none⟩ = some (.int .i64 p.size) := d2
            have d3A : (wr.drewN nq).cell? ⟨g, off + 3, none⟩ = some (.int .i64 rdy) := d3
            have c14B : (wr.drewN nq).cell? ⟨f0.a, 14, none⟩ = some (.slice (some ⟨g, off, none⟩) (tl.length + 1) cap) := c14
            have HX := hide (unhide HTk nq)
            have HRX := hide (unhide HR3 nq)
            have HLX := hide (show (wr.drewN nq).rangeLeft s.M w.heap.size = w1.rangeLeft s.M w.heap.size from unhide HL2)
            have habX : f0.a < (wr.drewN nq).heap.size := hab
            have HFr := hide (show t2.o (wr.drewN nq).heap.size = 0 from (unhide HT2).pm.free _ (Nat.le_refl _))
            clear d0 d1 d2 d3 c14 z14 cA HTk HR3
            generalize wr.drewN nq = W1 at *
            by_cases hcp : cap = 1
            · have htv : vt = .slice (some ⟨g, off, none⟩) tl.length 0 := by rw [unhide HVT, tlV, if_pos hcp]
              subst htv
              subst hcp
              go_wp2_with fail
              have hne : f2.a = f0.a := unhide HA2
              have hXT := (unhide HX).1
              have hXO := (unhide HX).2
              rw [hne] at hXT hXO
              have hNew := new_behind W1 ⟨f0.a, 14, none⟩ (.slice (some ⟨g, off, none⟩) tl.length 0) (.cells #[.int .i64 p.flow, .int .i64 p.seq, .int .i64 p.size, .int .i64 rdy] 118)
              have HXT := hide hXT
              have HXO := hide hXO
              have HNew := hide hNew
              clear hne hXT hXO hNew HX c14A c14B z14A d0A d1A d2A d3A
              generalize ((W1.setCell ⟨f0.a, 14, none⟩ (.slice (some ⟨g, off, none⟩) tl.length 0)).alloc (.cells #[.int .i64 p.flow, .int .i64 p.seq, .int .i64 p.size, .int .i64 rdy] 118)) = X at *
              have hq := (unhide HT2).q
              have hPX := (unhide HXT).pm
              have hfX := hPX.fl k _ (upd_same _ _ _)
              have hSo : ∀ w', Only (fun i => t2.o i = 2 ∨ t2.o i = 4) X w' → w'.cell? ⟨W1.heap.size, 0, none⟩ = some (.int .i64 p.flow) ∧ w'.cell? ⟨W1.heap.size, 1, none⟩ = some (.int .i64 p.seq) ∧ w'.cell? ⟨W1.heap.size, 2, none⟩ = some (.int .i64 p.size) ∧ w'.cell? ⟨W1.heap.size, 3, none⟩ = some (.int .i64 rdy) ∧ w'.cell? ⟨f0.a, 4, none⟩ = some (.int .i64 f2.f.d) := fun w' ho => by
                have hN : Is w' W1.heap.size 118 #[.int .i64 p.flow, .int .i64 p.seq, .int .i64 p.size, .int .i64 rdy] := Is.only (show Is X W1.heap.size 118 _ from unhide HNew) ho (fun e => by rw [unhide HFr] at e; omega)
                have hF := hfX.blk.only ho (fun e => by have := hfX.ob; have e' : t2.o f0.a = 2 ∨ t2.o f0.a = 4 := e; have o' : t2.o f0.a = 7 + 2 * k := this; omega)
                exact ⟨hN.cell (j := 0) rfl, hN.cell (j := 1) rfl, hN.cell (j := 2) rfl, hN.cell (j := 3) rfl, hF.cell (j := 4) rfl⟩
              have hPD := hPX.below (Below.refl _ _).drew
              have HPush := hide (hpush_any t2.Q 3 t2.H (enP p f2.f.d) X.drew 116 _ t2.vr hPD.inn rfl hPD.rd hPD.hp (fun e => by have := hPX.ord _ e; have o2 := hPX.oQ; have e1 : t2.o t2.Q = 4 := this; have e2 : t2.o t2.Q = 2 := o2; omega) hHl)
              have HQu := hide (fun (w5 : World) (v' : Value) (H' : List En) => hPD.queue (w' := w5) (v' := v') (H' := H'))
              have HOrd := hide (show ∀ i, (i = s.Q ∨ t2.vr.ownBlock = some i) → t2.o i = 2 ∨ t2.o i = 4 from fun i e => by
                rcases e with e | e
                · left; rw [e, ← hq]; exact hPX.oQ
                · right; exact hPX.ord i e)
              have hrw : IntKind.i64.wrap (rdy + f2.f.d) = rdy + f2.f.d := by go_arith
              have HSo := hide hSo
              have HMt := hide (show t2.o s.M = 3 from by have := hPX.oM; have e : t2.M = s.M := (unhide HS2).m; rw [← e]; exact this)
              have HfO := hide (show t2.o f0.a = 7 + 2 * k from hfX.ob)
              rw [hq] at HPush
              unfold qif enP ecs at HPush
              rw [unhide HRdy] at HPush
              have HQ := hide hq
              clear hq hPX hfX hSo hPD
              go_region_held3 (fun w' : World => w'.cell? ⟨W1.heap.size, 0, none⟩ = some (.int .i64 p.flow) ∧ w'.cell? ⟨W1.heap.size, 1, none⟩ = some (.int .i64 p.seq) ∧ w'.cell? ⟨W1.heap.size, 2, none⟩ = some (.int .i64 p.size) ∧ w'.cell? ⟨W1.heap.size, 3, none⟩ = some (.int .i64 rdy) ∧ w'.cell? ⟨f0.a, 4, none⟩ = some (.int .i64 f2.f.d))
                (first | exact unhide HSo _ (Only.of_below (Below.refl _ _).drew) | exact unhide HSo _ (by assumption))
                (first | (go_at_call 116; refine (unhide HPush).mono ?_; rintro e w5 ⟨rfl, v', H', hI5, hQ5, hH5, hP5, hg5, hO5⟩; have hOS : Only (fun i => t2.o i = 2 ∨ t2.o i = 4) X w5 := (Only.of_below (Below.refl _ _).drew).trans (hO5.mono fun i _ e => unhide HOrd i e) (fun _ _ h => h)))
              all_goals
                have hT5 := unhide HQu w5 v' H' (by rw [unhide HQ]; exact hI5) hQ5 hH5 (fun g' hg' => by
                  obtain ⟨g2, e1, e2⟩ := hg5
                  rw [e1] at hg'
                  obtain rfl := Option.some.inj hg'
                  exact e2) (by rw [unhide HQ]; exact hO5)
                have HT6 := hide (((unhide HXT).below (Below.refl _ _).drew).trans hT5)
                have hrl : w.heap.size < W1.heap.size := (unhide HRX).lt
                have hxs : W1.heap.size ≤ X.heap.size := (unhide HXO).size
                have hR5 := (unhide HRX).only (unhide HXO) (fun e => by have e1 := unhide HMt; rw [e, unhide HfO] at e1; omega) (fun e => by have e1 := unhide Hr2; rw [e, unhide HfO] at e1; omega)
                have hR6 := hR5.1.only hOS (fun e => by rw [unhide HMt] at e; omega) (fun e => by rw [unhide Hr2] at e; omega)
                have HR6 := hide hR6.1
                have HL6 := hide (hR6.2.trans (hR5.2.trans (unhide HLX)))
                have HJ6 := hide (show J { t2 with fs := upd t2.fs k { f2 with a := f0.a, vh := .slice (some ⟨g, off, none⟩) tl.length 0, L := tl }, vr := v', H := H', o := t2.o.give X.drew.heap.size w5.heap.size 4 } from
                  unhide HJ t2 _ (unhide HJ2) ⟨k, f2, p, tl, v', .slice (some ⟨g, off, none⟩) tl.length 0, t2.o.give X.drew.heap.size w5.heap.size 4, H', unhide HF2, unhide HLL, by rw [unhide HRdy, (unhide HS2).n]; exact unhide HLe, hH5, by unfold enP; rw [unhide HRdy]; exact hP5, by rw [unhide HA2]⟩)
                have HO6 := hide (show (t2.o.give X.drew.heap.size w5.heap.size 4) w.heap.size = 0 from (give_old (show w.heap.size < X.drew.heap.size from Nat.lt_of_lt_of_le hrl hxs)).trans (unhide Hr2))
                clear hI5 hQ5 hH5 hP5 hg5 hO5 hOS hT5 hR5 hR6 HQu HPush
                go_wp2_with fail
                go_roundg (tl.length + 1)
                case measure => have := unhide HTl; omega
                case rel =>
                  refine ⟨_, _, unhide HJ6, unhide HT6, (unhide HS2).trans ⟨rfl, rfl, adrs_upd (unhide HF2) (unhide HA2).symm⟩, unhide HO6, unhide HR6, unhide HL6, upd_same _ _ _, rfl, Nat.lt_succ_self _, fun j f p' tl' h1 h2 h3 h4 => ?_⟩
                  exact unhide HD2 j f p' tl' ((upd_far t2.fs _ h2).symm.trans h1) h2 h3 h4
            · have htv : vt = .slice (some ⟨g, off + 4, none⟩) tl.length (cap - 1) := by rw [unhide HVT, tlV, if_neg hcp]
              subst htv
              go_wp2_with fail
              have hne : f2.a = f0.a := unhide HA2
              have hXT := (unhide HX).1
              have hXO := (unhide HX).2
              rw [hne] at hXT hXO
              have hNew := new_behind W1 ⟨f0.a, 14, none⟩ (.slice (some ⟨g, off + 4, none⟩) tl.length (cap - 1)) (.cells #[.int .i64 p.flow, .int .i64 p.seq, .int .i64 p.size, .int .i64 rdy] 118)
              have HXT := hide hXT
              have HXO := hide hXO
              have HNew := hide hNew
              clear hne hXT hXO hNew HX c14A c14B z14A d0A d1A d2A d3A
              generalize ((W1.setCell ⟨f0.a, 14, none⟩ (.slice (some ⟨g, off + 4, none⟩) tl.length (cap - 1))).alloc (.cells #[.int .i64 p.flow, .int .i64 p.seq, .int .i64 p.size, .int .i64 rdy] 118)) = X at *
              have hq := (unhide HT2).q
              have hPX := (unhide HXT).pm
              have hfX := hPX.fl k _ (upd_same _ _ _)
              have hSo : ∀ w', Only (fun i => t2.o i = 2 ∨ t2.o i = 4) X w' → w'.cell? ⟨W1.heap.size, 0, none⟩ = some (.int .i64 p.flow) ∧ w'.cell? ⟨W1.heap.size, 1, none⟩ = some (.int .i64 p.seq) ∧ w'.cell? ⟨W1.heap.size, 2, none⟩ = some (.int .i64 p.size) ∧ w'.cell? ⟨W1.heap.size, 3, none⟩ = some (.int .i64 rdy) ∧ w'.cell? ⟨f0.a, 4, none⟩ = some (.int .i64 f2.f.d) := fun w' ho => by
                have hN : Is w' W1.heap.size 118 #[.int .i64 p.flow, .int .i64 p.seq, .int .i64 p.size, .int .i64 rdy] := Is.only (show Is X W1.heap.size 118 _ from unhide HNew) ho (fun e => by rw [unhide HFr] at e; omega)
                have hF := hfX.blk.only ho (fun e => by have := hfX.ob; have e' : t2.o f0.a = 2 ∨ t2.o f0.a = 4 := e; have o' : t2.o f0.a = 7 + 2 * k := this; omega)
                exact ⟨hN.cell (j := 0) rfl, hN.cell (j := 1) rfl, hN.cell (j := 2) rfl, hN.cell (j := 3) rfl, hF.cell (j := 4) rfl⟩
              have hPD := hPX.below (Below.refl _ _).drew
              have HPush := hide (hpush_any t2.Q 3 t2.H (enP p f2.f.d) X.drew 116 _ t2.vr hPD.inn rfl hPD.rd hPD.hp (fun e => by have := hPX.ord _ e; have o2 := hPX.oQ; have e1 : t2.o t2.Q = 4 := this; have e2 : t2.o t2.Q = 2 := o2; omega) hHl)
              have HQu := hide (fun (w5 : World) (v' : Value) (H' : List En) => hPD.queue (w' := w5) (v' := v') (H' := H'))
              have HOrd := hide (show ∀ i, (i = s.Q ∨ t2.vr.ownBlock = some i) → t2.o i = 2 ∨ t2.o i = 4 from fun i e => by
                rcases e with e | e
                · left; rw [e, ← hq]; exact hPX.oQ
                · right; exact hPX.ord i e)
              have hrw : IntKind.i64.wrap (rdy + f2.f.d) = rdy + f2.f.d := by go_arith
              have HSo := hide hSo
              have HMt := hide (show t2.o s.M = 3 from by have := hPX.oM; have e : t2.M = s.M := (unhide HS2).m; rw [← e]; exact this)
              have HfO := hide (show t2.o f0.a = 7 + 2 * k from hfX.ob)
              rw [hq] at HPush
              unfold qif enP ecs at HPush
              rw [unhide HRdy] at HPush
              have HQ := hide hq
              clear hq hPX hfX hSo hPD
              go_region_held3 (fun w' : World => w'.cell? ⟨W1.heap.size, 0, none⟩ = some (.int .i64 p.flow) ∧ w'.cell? ⟨W1.heap.size, 1, none⟩ = some (.int .i64 p.seq) ∧ w'.cell? ⟨W1.heap.size, 2, none⟩ = some (.int .i64 p.size) ∧ w'.cell? ⟨W1.heap.size, 3, none⟩ = some (.int .i64 rdy) ∧ w'.cell? ⟨f0.a, 4, none⟩ = some (.int .i64 f2.f.d))
                (first | exact unhide HSo _ (Only.of_below (Below.refl _ _).drew) | exact unhide HSo _ (by assumption))
                (first | (go_at_call 116; refine (unhide HPush).mono ?_; rintro e w5 ⟨rfl, v', H', hI5, hQ5, hH5, hP5, hg5, hO5⟩; have hOS : Only (fun i => t2.o i = 2 ∨ t2.o i = 4) X w5 := (Only.of_below (Below.refl _ _).drew).trans (hO5.mono fun i _ e => unhide HOrd i e) (fun _ _ h => h)))
              all_goals
                have hT5 := unhide HQu w5 v' H' (by rw [unhide HQ]; exact hI5) hQ5 hH5 (fun g' hg' => by
                  obtain ⟨g2, e1, e2⟩ := hg5
                  rw [e1] at hg'
                  obtain rfl := Option.some.inj hg'
                  exact e2) (by rw [unhide HQ]; exact hO5)
                have HT6 := hide (((unhide HXT).below (Below.refl _ _).drew).trans hT5)
                have hrl : w.heap.size < W1.heap.size := (unhide HRX).lt
                have hxs : W1.heap.size ≤ X.heap.size := (unhide HXO).size
                have hR5 := (unhide HRX).only (unhide HXO) (fun e => by have e1 := unhide HMt; rw [e, unhide HfO] at e1; omega) (fun e => by have e1 := unhide Hr2; rw [e, unhide HfO] at e1; omega)
                have hR6 := hR5.1.only hOS (fun e => by rw [unhide HMt] at e; omega) (fun e => by rw [unhide Hr2] at e; omega)
                have HR6 := hide hR6.1
                have HL6 := hide (hR6.2.trans (hR5.2.trans (unhide HLX)))
                have HJ6 := hide (show J { t2 with fs := upd t2.fs k { f2 with a := f0.a, vh := .slice (some ⟨g, off + 4, none⟩) tl.length (cap - 1), L := tl }, vr := v', H := H', o := t2.o.give X.drew.heap.size w5.heap.size 4 } from
                  unhide HJ t2 _ (unhide HJ2) ⟨k, f2, p, tl, v', .slice (some ⟨g, off + 4, none⟩) tl.length (cap - 1), t2.o.give X.drew.heap.size w5.heap.size 4, H', unhide HF2, unhide HLL, by rw [unhide HRdy, (unhide HS2).n]; exact unhide HLe, hH5, by unfold enP; rw [unhide HRdy]; exact hP5, by rw [unhide HA2]⟩)
                have HO6 := hide (show (t2.o.give X.drew.heap.size w5.heap.size 4) w.heap.size = 0 from (give_old (show w.heap.size < X.drew.heap.size from Nat.lt_of_lt_of_le hrl hxs)).trans (unhide Hr2))
                clear hI5 hQ5 hH5 hP5 hg5 hO5 hOS hT5 hR5 hR6 HQu HPush
                go_wp2_with fail
                go_roundg (tl.length + 1)
                case measure => have := unhide HTl; omega
                case rel =>
                  refine ⟨_, _, unhide HJ6, unhide HT6, (unhide HS2).trans ⟨rfl, rfl, adrs_upd (unhide HF2) (unhide HA2).symm⟩, unhide HO6, unhide HR6, unhide HL6, upd_same _ _ _, rfl, Nat.lt_succ_self _, fun j f p' tl' h1 h2 h3 h4 => ?_⟩
                  exact unhide HD2 j f p' tl' ((upd_far t2.fs _ h2).symm.trans h1) h2 h3 h4
          · have HO := hide (unhide HOut (fun p' tl' e => by
              rw [hL] at e
              obtain ⟨rfl, rfl⟩ := List.cons.inj e
              omega))
            have hle2 : decide (toTick p.ready ≤ s.now) = false := by simpa using hle
            generalize toTick p.ready = rdy at *
            clear hJ2 hT2 hS2 hr2 hR2 hL2 hf2 ha2 hn2 hD2 hfm hvh hL HOut hv hhl hcell hc1 hc2
            go_wp2_with fail
            go_quiet (fail)
            go_wp2_with fail
            go_roundw
            case rel => exact unhide HO _
            case measure => exact Nat.lt_of_le_of_lt (Nat.le_of_eq (unhide HL2)) (unhide HLt)
end Go.Proofs.YtcnmajndackohaaGreatDoor
