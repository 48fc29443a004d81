import Derived.Test.YtcnmajndackohaaGreatDoorMg21
import Derived.Deep.RegionLaw
import Derived.Deep.RegionHeld3
/-
  What the program's begin does.
-/
namespace Go.Proofs.YtcnmajndackohaaGreatDoor
open Go.RowKit

theorem infoGon : (Tryz.prog.info? 63).map (fun i => (i.zero, i.size, i.bytes)) = some (some (.agg #[.int .i64 0, .int .i64 0, .int .i64 0, .int .i64 0, .int .i64 0, .int .i64 0]), 6, 48) := by kernel_rfl
/-- One more has begun. -/
theorem PM.begOn {w w1 w2 : World} {P : Nat} {s : PS} {v' : Value} {p : Pk} (h : PM w P s) (hb : Below w.heap.size w w1) (hown : w2.ownsRow 0 63 6 v' (s.G.length + 1) (gcells s.G ++ gcs p)) (hgrow : w1.grownBy w2 s.vb.ownBlock) (hat : ∀ g, v'.ownBlock = some g → s.vb.ownBlock = some g ∨ w.heap.size ≤ g) :
    Is w2 s.Q 116 s.cs ∧ PTo w P s (w2.setCell ⟨s.Q, 6, none⟩ v') { s with vb := v', G := s.G ++ [p], o := s.o.give w.heap.size w2.heap.size 6 } := by
  have hO1 : Only (fun i => s.o i = 6) w w2 := (Only.of_below hb).grown hgrow (fun k e _ => h.be.2 k e)
  have hI : Is w2 s.Q 116 s.cs := h.inn.only hO1 (fun e => by rw [h.oQ] at e; cases e)
  have hO : Only (fun i => s.o i = 2 ∨ s.o i = 6) w (w2.setCell ⟨s.Q, 6, none⟩ v') := (hO1.mono fun i _ e => .inr e).setCell (.inl (.inl h.oQ))
  have hg : ∀ i, i < w.heap.size → (s.o.give w.heap.size w2.heap.size 6) i = s.o i := fun i hi => give_old hi
  have hsz : (w2.setCell ⟨s.Q, 6, none⟩ v').heap.size = w2.heap.size := by simp
  have hvQ : ∀ g, v'.ownBlock = some g → g ≠ s.Q := fun g hg' e => by
    rcases hat g hg' with k | k
    · have := h.be.2 g k; rw [e, h.oQ] at this; cases this
    · have := h.inn.lt; omega
  refine ⟨hI, h.ownTo (c := 6) (.inr (.inr (.inr rfl))) hO hg ?_ rfl rfl rfl (hI.set 6 v') (h.rd.keep h.ord hO (fun i e => by omega)) (fun g hg' => (hg g (h.rd.lt g hg')).trans (h.ord g hg')) (h.ot.keep hO (fun i e => by omega) hg) ?_ h.hp, hO.mono fun i _ e => by omega, hg, rfl⟩
  · have := give_free (c := 6) h.free hO1.size
    exact fun i hi => this i (by omega)
  · refine ⟨?_, fun g hg' => ?_⟩
    · rw [List.length_append, gcat]
      refine ownsRow_only (S := fun i => i = s.Q) ?_ (only_set _ _ _ _) (fun g hg' e => hvQ g hg' e)
      exact hown
    · rcases hat g hg' with k | k
      · exact (hg g (ownsRow_lt h.be.1 g k).2).trans (h.be.2 g k)
      · exact give_new k (ownsRow_lt hown g hg').2
/-- What begins: nothing, one of none, one of a flow. -/
def Beg (s s' : PS) : Prop :=
  ((s.busy = true ∨ (s.H = [] ∧ s.O = [])) ∧ s' = s) ∨
  (s.busy = false ∧ s.H = [] ∧ ∃ p tl v vb o, s.O = p :: tl ∧ s' = { s with O := tl, vo := v, vb := vb, G := s.G ++ [⟨p.flow, p.seq, p.size, toTick p.ready, s.now, false, false⟩], o := o }) ∨
  (s.busy = false ∧ ∃ (x : En) (H' : List En) (v vb : Value) (o : Whose) (k : Nat) (f : FS), s.H.Perm (x :: H') ∧ (∀ y ∈ s.H, x.le y) ∧ x.flow = (k : Int) ∧ s.fs k = some f ∧
    s' = { s with H := H', vr := v, vb := vb, G := s.G ++ [⟨x.flow, x.seq, x.size, x.ready, s.now, false, false⟩], o := o, fs := upd s.fs k { f with wa := f.wa - 1 } })
theorem PN.beLen {w : World} {P : Nat} {s : PS} (h : PN w P s) : ∃ a c, s.vb = .slice a s.G.length c := by
  rcases h.be.1.2 with ⟨e1, e2⟩ | ⟨g, cap, cur, e1, _⟩
  · exact ⟨none, 0, by rw [e1, e2]⟩
  · exact ⟨_, _, e1⟩
set_option maxRecDepth 100000 in
set_option maxHeartbeats 2000000 in
/-- From where the packet is known on. -/
theorem pbegin_rest (w : World) (P : Nat) (s : PS) (h : PM w P s) (hbz : s.busy = false) (hG : s.G.length ≤ 1000000000) (hnow : 0 ≤ s.now ∧ s.now ≤ 1000000000000) (R : PS → Int → Int → Int → Int → Prop)
    (hnx : ∀ m, Calls Tryz.prog 118 #[.pointer (some ⟨s.Q, 0, none⟩)] (w.drewN m) fun e w' => ∃ (s1 : PS) (fl sq sz rd : Int), e = .returned (.tuple #[.agg #[.int .i64 fl, .int .i64 sq, .int .i64 sz, .int .i64 rd], .bool true]) ∧ (1 ≤ sz ∧ sz ≤ 8) ∧ PTo (w.drewN m) P s w' s1 ∧ R s1 fl sq sz rd ∧ s1.G = s.G ∧ s1.now = s.now) :
    Calls Tryz.prog 92 #[.pointer (some ⟨s.Q, 0, none⟩)] w fun e w' => e = .returned (.tuple #[]) ∧ ∃ (s1 : PS) (fl sq sz rd : Int) (vb : Value) (o : Whose), R s1 fl sq sz rd ∧ PTo w P s w' { s1 with vb := vb, G := s.G ++ [⟨fl, sq, sz, rd, s.now, false, false⟩], o := o } := by
  have HB := hide (pbusyD w P s h.toPN hG)
  rw [hbz] at HB
  have HNx := hide hnx
  have HH := hide h
  obtain ⟨i0, hi0, hz0, hz1, hz2⟩ := info_five infoGon
  have HI0 := hide hi0
  have HZ0 := hide hz0
  have HZ1 := hide hz1
  have HZ2 := hide hz2
  clear hnx h hi0 hz0 hz1 hz2 hbz
  go_enter Tryz.func92, Tryz.ntmps92
  go_wp2_with fail
  refine (unhide HB).mono ?_
  rintro e w1 ⟨rfl, m, rfl⟩
  clear HB
  go_wp2_with fail
  refine (unhide HNx m).mono ?_
  rintro e w2 ⟨s1, fl, sq, sz, rd, rfl, hsz, hT, hR, hG1, hn1⟩
  have HT := hide (show PTo w P s w2 s1 from ((PTo.refl (unhide HH)).below (drewN_bel (Below.refl _ _) m)).trans hT)
  have HR := hide hR
  clear HNx hT hR
  obtain ⟨ab, cb, hv⟩ := (unhide HT).pm.beLen
  have c0 : ∀ o1, (w2.alloc o1).cell? ⟨s.Q, 0, none⟩ = some (.int .i64 s.now) := fun o1 => by
    have hq := (unhide HT).q
    have := (unhide HT).pm.c0
    rw [hq, hn1] at this
    have hlt := (unhide HT).pm.inn.lt
    rw [hq] at hlt
    exact (World.cell?_alloc_past (w := w2) o1 s.Q 0 hlt).trans this
  have c6 : ∀ o1, (w2.alloc o1).cell? ⟨s.Q, 6, none⟩ = some (.slice ab s.G.length cb) := fun o1 => by
    have hq := (unhide HT).q
    have := (unhide HT).pm.c6
    rw [hq, hv, hG1] at this
    have hlt := (unhide HT).pm.inn.lt
    rw [hq] at hlt
    exact (World.cell?_alloc_past (w := w2) o1 s.Q 6 hlt).trans this
  have HBe := hide (show w2.ownsRow 0 63 6 (.slice ab s.G.length cb) s.G.length (gcells s.G) from by
    have := (unhide HT).pm.be.1
    rw [hv, hG1] at this; exact this)
  have HOn := hide (fun (w3 : World) (v' : Value) (hown : w3.ownsRow 0 63 6 v' (s.G.length + 1) (gcells s.G ++ gcs ⟨fl, sq, sz, rd, s.now, false, false⟩)) (w1 : World) (hb : Below w2.heap.size w2 w1) (hgrow : w1.grownBy w3 (Value.slice ab s.G.length cb).ownBlock) (hat : ∀ g, v'.ownBlock = some g → (Value.slice ab s.G.length cb).ownBlock = some g ∨ w2.heap.size ≤ g) =>
    show Is w3 s.Q 116 s1.cs ∧ PTo w P s (w3.setCell ⟨s.Q, 6, none⟩ v') { s1 with vb := v', G := s.G ++ [⟨fl, sq, sz, rd, s.now, false, false⟩], o := s1.o.give w2.heap.size w3.heap.size 6 } from by
      have hX := (unhide HT).pm.begOn (p := ⟨fl, sq, sz, rd, s.now, false, false⟩) hb (by rw [hG1]; exact hown) (by rw [hv, hG1]; exact hgrow) (by rw [hv, hG1]; exact hat)
      have h2 := (unhide HT).trans hX.2
      rw [hG1] at h2
      have h1 := hX.1
      rw [(unhide HT).q] at h1 h2
      refine ⟨h1, ?_⟩
      have e : s1.Q = s.Q := (unhide HT).q
      rw [e]
      exact h2)
  have HSt := hide (show ∀ k, (Value.slice ab s.G.length cb).ownBlock = some k → s1.o k = 6 from fun k e => (unhide HT).pm.be.2 k (by rw [hv, hG1]; exact e))
  have c6b : ∀ o1 o2, ((w2.alloc o1).alloc o2).cell? ⟨s.Q, 6, none⟩ = some (.slice ab s.G.length cb) := fun o1 o2 => by
    have hlt := (unhide HT).pm.inn.lt
    rw [(unhide HT).q] at hlt
    exact (World.cell?_alloc_past (w := w2.alloc o1) o2 s.Q 6 (by simp; omega)).trans (c6 o1)
  have HNew := hide (Is.new w2 118 #[.int .i64 fl, .int .i64 sq, .int .i64 sz, .int .i64 rd])
  have HIn := hide (show Is w2 s.Q 116 s1.cs from by have := (unhide HT).pm.inn; rwa [(unhide HT).q] at this)
  have hSo : ∀ w', Only (fun i => s1.o i = 6) (w2.alloc (.cells #[.int .i64 fl, .int .i64 sq, .int .i64 sz, .int .i64 rd] 118)) w' → w'.cell? ⟨s.Q, 0, none⟩ = some (.int .i64 s.now) ∧ w'.cell? ⟨w2.heap.size, 0, none⟩ = some (.int .i64 fl) ∧ w'.cell? ⟨w2.heap.size, 1, none⟩ = some (.int .i64 sq) ∧ w'.cell? ⟨w2.heap.size, 2, none⟩ = some (.int .i64 sz) ∧ w'.cell? ⟨w2.heap.size, 3, none⟩ = some (.int .i64 rd) := fun w' ho => by
    have hI : Is w' s.Q 116 s1.cs := ((unhide HIn).alloc _).only ho (fun e => by
      have := (unhide HT).pm.oQ
      rw [(unhide HT).q, e] at this; cases this)
    have hN : Is w' w2.heap.size 118 #[.int .i64 fl, .int .i64 sq, .int .i64 sz, .int .i64 rd] := (unhide HNew).only ho (fun e => by
      rw [(unhide HT).pm.free _ (Nat.le_refl _)] at e; cases e)
    refine ⟨?_, hN.cell (j := 0) rfl, hN.cell (j := 1) rfl, hN.cell (j := 2) rfl, hN.cell (j := 3) rfl⟩
    rw [← hn1]; exact hI.cell (j := 0) rfl
  have hSc : ∀ (w' : World) (v : Value), (w'.cell? ⟨s.Q, 0, none⟩ = some (.int .i64 s.now) ∧ w'.cell? ⟨w2.heap.size, 0, none⟩ = some (.int .i64 fl) ∧ w'.cell? ⟨w2.heap.size, 1, none⟩ = some (.int .i64 sq) ∧ w'.cell? ⟨w2.heap.size, 2, none⟩ = some (.int .i64 sz) ∧ w'.cell? ⟨w2.heap.size, 3, none⟩ = some (.int .i64 rd)) →
      ((w'.setCell ⟨s.Q, 6, none⟩ v).cell? ⟨s.Q, 0, none⟩ = some (.int .i64 s.now) ∧ (w'.setCell ⟨s.Q, 6, none⟩ v).cell? ⟨w2.heap.size, 0, none⟩ = some (.int .i64 fl) ∧ (w'.setCell ⟨s.Q, 6, none⟩ v).cell? ⟨w2.heap.size, 1, none⟩ = some (.int .i64 sq) ∧ (w'.setCell ⟨s.Q, 6, none⟩ v).cell? ⟨w2.heap.size, 2, none⟩ = some (.int .i64 sz) ∧ (w'.setCell ⟨s.Q, 6, none⟩ v).cell? ⟨w2.heap.size, 3, none⟩ = some (.int .i64 rd)) := fun w' v hh => by
    have hne : s.Q ≠ w2.heap.size := fun e => by
      have := (unhide HIn).lt
      omega
    obtain ⟨h0, h1, h2, h3, h4⟩ := hh
    refine ⟨?_, ?_, ?_, ?_, ?_⟩
    · exact (World.cell?_setCell_other w' ⟨s.Q, 6, none⟩ ⟨s.Q, 0, none⟩ v (by simp)).trans h0
    · exact (World.cell?_setCell_far w' ⟨s.Q, 6, none⟩ ⟨w2.heap.size, 0, none⟩ v hne).trans h1
    · exact (World.cell?_setCell_far w' ⟨s.Q, 6, none⟩ ⟨w2.heap.size, 1, none⟩ v hne).trans h2
    · exact (World.cell?_setCell_far w' ⟨s.Q, 6, none⟩ ⟨w2.heap.size, 2, none⟩ v hne).trans h3
    · exact (World.cell?_setCell_far w' ⟨s.Q, 6, none⟩ ⟨w2.heap.size, 3, none⟩ v hne).trans h4
  have HSo := hide hSo
  have HSc := hide hSc
  clear hSo hSc
  have hGl : (s.G.length : Int) ≤ 1000000000 := by omega
  obtain ⟨n0, n1⟩ := hnow
  obtain ⟨e0, e1⟩ := hsz
  have hwr : IntKind.i64.wrap (s.now + sz) = s.now + sz := by go_arith
  clear hv hG1 hn1
  go_wp2_with fail
  refine wp_region_held_drew (S := (fun w' : World => w'.cell? ⟨s.Q, 0, none⟩ = some (.int .i64 s.now) ∧ w'.cell? ⟨w2.heap.size, 0, none⟩ = some (.int .i64 fl) ∧ w'.cell? ⟨w2.heap.size, 1, none⟩ = some (.int .i64 sq) ∧ w'.cell? ⟨w2.heap.size, 2, none⟩ = some (.int .i64 sz) ∧ w'.cell? ⟨w2.heap.size, 3, none⟩ = some (.int .i64 rd))) (by kernel_rfl) (unhide HSo _ (Only.of_below (Below.refl _ _).drew)) (fun hHeld => ?_)
  refine wpAnyH_take (i := 0) (v := ?_) rfl (by kernel_rfl) (by kernel_rfl) (by kernel_rfl) (fun _ _ _ h => h) (Or.inl ⟨by rfl, ?_⟩) (by assumption) ?_
  rotate_left
  · intro w hSw; (try dsimp only at hSw); go_simp; (try rfl)
  (try go_frame)
  refine wpAnyH_take (i := 1) (v := ?_) rfl (by kernel_rfl) (by kernel_rfl) (by kernel_rfl) (fun _ _ _ h => h) (Or.inl ⟨by rfl, ?_⟩) (by assumption) ?_
  rotate_left
  · intro w hSw; (try dsimp only at hSw); go_simp; (try rfl)
  (try go_frame)
  refine wpAnyH_take (i := 2) (v := ?_) rfl (by kernel_rfl) (by kernel_rfl) (by kernel_rfl) (fun _ _ _ h => h) (Or.inl ⟨by rfl, ?_⟩) (by assumption) ?_
  rotate_left
  · intro w hSw; (try dsimp only at hSw); go_simp; (try rfl)
  (try go_frame)
  refine wpAnyH_take (i := 3) (v := ?_) rfl (by kernel_rfl) (by kernel_rfl) (by kernel_rfl) (fun _ _ _ h => h) (Or.inl ⟨by rfl, ?_⟩) (by assumption) ?_
  rotate_left
  · intro w hSw; (try dsimp only at hSw); go_simp; (try rfl)
  (try go_frame)
  refine wpAnyH_take (i := 5) (v := ?_) rfl (by kernel_rfl) (by kernel_rfl) (by kernel_rfl) (fun _ _ _ h => h) (Or.inl ⟨by rfl, ?_⟩) (by assumption) ?_
  rotate_left
  · intro w hSw; (try dsimp only at hSw); go_simp; (try rfl)
  (try go_frame)
  refine wpAnyH_take (i := 6) (v := ?_) rfl (by kernel_rfl) (by kernel_rfl) (by kernel_rfl) (fun _ _ _ h => h) (Or.inl ⟨by rfl, ?_⟩) (by assumption) ?_
  rotate_left
  · intro w hSw; (try dsimp only at hSw); go_simp; (try rfl)
  (try go_frame)
  refine wpAnyH_take (i := 7) (v := ?_) rfl (by kernel_rfl) (by kernel_rfl) (by kernel_rfl) (fun _ _ _ h => h) (Or.inl ⟨by rfl, ?_⟩) (by assumption) ?_
  rotate_left
  · intro w hSw; (try dsimp only at hSw); go_simp; (try rfl)
  (try go_frame)
  refine wpAnyH_take (i := 8) (v := ?_) rfl (by kernel_rfl) (by kernel_rfl) (by kernel_rfl) (fun _ _ _ h => h) (Or.inl ⟨by rfl, ?_⟩) (by assumption) ?_
  rotate_left
  · intro w hSw; (try dsimp only at hSw); go_simp; (try rfl)
  (try go_frame)
  refine wpAnyH_take (i := 9) (v := ?_) rfl (by kernel_rfl) (by kernel_rfl) (by kernel_rfl) (fun _ _ _ h => h) (Or.inl ⟨by rfl, ?_⟩) (by assumption) ?_
  rotate_left
  · intro w hSw; (try dsimp only at hSw); go_simp; (try rfl)
  (try go_frame)
  refine wpAnyH_take (i := 10) (v := ?_) rfl (by kernel_rfl) (by kernel_rfl) (by kernel_rfl) (fun _ _ _ h => h) (Or.inl ⟨by rfl, ?_⟩) (by assumption) ?_
  rotate_left
  · intro w hSw; (try dsimp only at hSw); go_simp; (try rfl)
  (try go_frame)
  refine wpAnyH_take (i := 11) (v := ?_) rfl (by kernel_rfl) (by kernel_rfl) (by kernel_rfl) (fun _ _ _ h => h) (Or.inl ⟨by rfl, ?_⟩) (by assumption) ?_
  rotate_left
  · intro w hSw; (try dsimp only at hSw); go_simp; (try rfl)
  (try go_frame)
  refine wpAnyH_take (i := 12) (v := ?_) rfl (by kernel_rfl) (by kernel_rfl) (by kernel_rfl) (fun _ _ _ h => h) (Or.inl ⟨by rfl, ?_⟩) (by assumption) ?_
  rotate_left
  · intro w hSw; (try dsimp only at hSw); go_simp; (try rfl)
  (try go_frame)
  refine wpAnyH_take (i := 13) (v := ?_) rfl (by kernel_rfl) (by kernel_rfl) (by kernel_rfl) (fun _ _ _ h => h) (Or.inl ⟨by rfl, ?_⟩) (by assumption) ?_
  rotate_left
  · intro w hSw; (try dsimp only at hSw); go_simp; (try rfl)
  (try go_frame)
  refine wpAnyH_take (i := 14) (v := ?_) rfl (by kernel_rfl) (by kernel_rfl) (by kernel_rfl) (fun _ _ _ h => h) (Or.inl ⟨by rfl, ?_⟩) (by assumption) ?_
  rotate_left
  · intro w hSw; (try dsimp only at hSw); go_simp; (try rfl)
  (try go_frame)
  refine wpAnyH_take (i := 15) (v := ?_) rfl (by kernel_rfl) (by kernel_rfl) (by kernel_rfl) (fun _ _ _ h => h) (Or.inl ⟨by rfl, ?_⟩) (by assumption) ?_
  rotate_left
  · intro w hSw; (try dsimp only at hSw); go_simp; (try rfl)
  (try go_frame)
  refine wpAnyH_take (i := 16) (v := ?_) rfl (by kernel_rfl) (by kernel_rfl) (by kernel_rfl) (fun _ _ _ h => h) (Or.inl ⟨by rfl, ?_⟩) (by assumption) ?_
  rotate_left
  · intro w hSw; (try dsimp only at hSw); go_simp; (try rfl)
  (try go_frame)
  refine wpAnyH_take (i := 17) (v := ?_) rfl (by kernel_rfl) (by kernel_rfl) (by kernel_rfl) (fun _ _ _ h => h) (Or.inl ⟨by rfl, ?_⟩) (by assumption) ?_
  rotate_left
  · intro w hSw; (try dsimp only at hSw); go_simp; (try rfl)
  (try go_frame)
  refine wpAnyH_take (i := 18) (v := ?_) rfl (by kernel_rfl) (by kernel_rfl) (by kernel_rfl) (fun _ _ _ h => h) (Or.inl ⟨by rfl, ?_⟩) (by assumption) ?_
  rotate_left
  · intro w hSw; (try dsimp only at hSw); go_simp; (try rfl)
  (try go_frame)
  refine wpAnyH_take (i := 19) (v := ?_) rfl (by kernel_rfl) (by kernel_rfl) (by kernel_rfl) (fun _ _ _ h => h) (Or.inl ⟨by rfl, ?_⟩) (by assumption) ?_
  rotate_left
  · intro w hSw; (try dsimp only at hSw); go_simp; (try rfl)
  (try go_frame)
  refine wpAnyH_take (i := 20) (v := ?_) rfl (by kernel_rfl) (by kernel_rfl) (by kernel_rfl) (fun _ _ _ h => h) (Or.inl ⟨by rfl, ?_⟩) (by assumption) ?_
  rotate_left
  · intro w hSw; (try dsimp only at hSw); go_simp; (try rfl)
  (try go_frame)
  refine wpAnyH_take (i := 21) (v := ?_) rfl (by kernel_rfl) (by kernel_rfl) (by kernel_rfl) (fun _ _ _ h => h) (Or.inl ⟨by rfl, ?_⟩) (by assumption) ?_
  rotate_left
  · intro w hSw; (try dsimp only at hSw); go_simp; (try rfl)
  (try go_frame)
  refine wpAnyH_take (i := 22) (v := ?_) rfl (by kernel_rfl) (by kernel_rfl) (by kernel_rfl) (fun _ _ _ h => h) (Or.inl ⟨by rfl, ?_⟩) (by assumption) ?_
  rotate_left
  · intro w hSw; (try dsimp only at hSw); go_simp; (try rfl)
  (try go_frame)
  refine wpAnyH_take (i := 23) (v := ?_) rfl (by kernel_rfl) (by kernel_rfl) (by kernel_rfl) (fun _ _ _ h => h) (Or.inl ⟨by rfl, ?_⟩) (by assumption) ?_
  rotate_left
  · intro w hSw; (try dsimp only at hSw); go_simp; (try rfl)
  (try go_frame)
  refine wpAnyH_take (i := 24) (v := ?_) rfl (by kernel_rfl) (by kernel_rfl) (by kernel_rfl) (fun _ _ _ h => h) (Or.inl ⟨by rfl, ?_⟩) (by assumption) ?_
  rotate_left
  · intro w hSw; (try dsimp only at hSw); go_simp; (try rfl)
  (try go_frame)
  refine wpAnyH_ready (rs := [4, 25]) (by kernel_rfl) (by simp) (AllReadyH.cons rfl (fun K hK => ?_) (AllReadyH.cons rfl (fun K hK => ?_) AllReadyH.nil))
  · go_simp
    refine hK.out _ _ (unhide HSo _ (Only.of_below (Below.refl _ _).drew)) (fun hHeld => ?_)
    clear hK K
    (try go_frame)
    refine wpAnyH_ready (rs := [25]) (by kernel_rfl) (by simp) (AllReadyH.cons rfl (fun K hK => ?_) AllReadyH.nil)
    go_simp
    refine hK.out _ _ (unhide HSo _ (Only.of_below (bel_one _).drew)) (fun hHeld => ?_)
    clear hK K
    (try go_frame)
    refine wpAnyH_ready (rs := [26]) (by kernel_rfl) (by simp) (AllReadyH.cons rfl (fun K hK => ?_) AllReadyH.nil)
    refine step_append_lies _ rfl (.tmp 17) (.tmp 38) 55 rfl 0 63 i0 _ 6 48 Tryz.underlying55 (unhide HI0) (unhide HZ0) (unhide HZ1) (unhide HZ2) rfl (by omega) (.slice ab s.G.length cb) s.G.length (gcells s.G) (by rfl) (World.ownsRow.drew (World.ownsRow.alloc (World.ownsRow.alloc (unhide HBe) _) _)) ⟨w2.heap.size + 1, 0, none⟩ 1 1 (gcs ⟨fl, sq, sz, rd, s.now, false, false⟩) (by rfl) (by rfl) (World.news_of_block (cs := #[.int .i64 fl, .int .i64 sq, .int .i64 sz, .int .i64 rd, .int .i64 s.now, .int .i64 (s.now + sz)]) (t := 63) (fr := (0, 0)) (is_new2 w2 _ _ _)) (by simp [gcs, Value.oneCell']) (by omega) (by unfold maxLen; omega) (by omega) (Nat.zero_le _) (w2.heap.size + 2) (by show ((w2.alloc _).alloc _).heap.size = _; rw [World.size_alloc, World.size_alloc]) ?_
    intro g cap w3 hown hgrow hat hlt
    have hO3 := (Only.of_below (S := fun i => s1.o i = 6) ((bel_one (w := w2.alloc (.cells #[.int .i64 fl, .int .i64 sq, .int .i64 sz, .int .i64 rd] 118)) (.cells #[.int .i64 fl, .int .i64 sq, .int .i64 sz, .int .i64 rd, .int .i64 s.now, .int .i64 (s.now + sz)] 63)).drew)).grown hgrow (fun k e _ => unhide HSt k e)
    have hX := unhide HOn w3 _ hown _ ((bel_then (bel_one _) (bel_one _)).drew) hgrow (fun g' hg' => hat.imp (fun e => e.trans hg') (fun e => by have e' : g = g' := Option.some.inj hg'; omega))
    have hc2 := hX.1.cell (j := 6) rfl
    have hz2 := hX.1.frozen 6
    have HX := hide hX
    refine hK.out _ _ (unhide HSo _ hO3) (fun hHeld => ?_)
    clear hK K hX hown hgrow hat hlt hO3
    (try go_frame)
    refine wpAnyH_take (i := 27) (v := ?_) rfl (by kernel_rfl) (by kernel_rfl) (by kernel_rfl) (fun _ _ _ h => h) (Or.inl ⟨by rfl, ?_⟩) (by assumption) ?_
    rotate_left
    · intro w hSw; (try dsimp only at hSw); go_simp; (try rfl)
    (try go_frame)
    refine wpAnyH_take (i := 28) (v := ?_) rfl (by kernel_rfl) (by kernel_rfl) (by kernel_rfl) (fun _ _ _ h => h) (Or.inl ⟨by rfl, ?_⟩) (by assumption) ?_
    rotate_left
    · intro w hSw; (try dsimp only at hSw); go_simp; (try rfl)
    (try go_frame)
    refine wpAnyH_ready (rs := [29]) (by kernel_rfl) (by simp) (AllReadyH.cons rfl (fun K hK => ?_) AllReadyH.nil)
    go_simp
    refine hK.out _ _ (unhide HSc _ _ hHeld) (fun hHeld => ?_)
    clear hK K
    refine wpAnyH_done (by kernel_rfl) ?_ _
    clear hHeld hc2 hz2
    go_wp2_with fail
    go_end0
    exact ⟨rfl, s1, fl, sq, sz, rd, _, _, unhide HR, (unhide HX).2⟩
  · go_simp
    refine hK.out _ _ (unhide HSo _ (Only.of_below (bel_one _).drew)) (fun hHeld => ?_)
    clear hK K
    (try go_frame)
    refine wpAnyH_ready (rs := [4]) (by kernel_rfl) (by simp) (AllReadyH.cons rfl (fun K hK => ?_) AllReadyH.nil)
    go_simp
    refine hK.out _ _ (unhide HSo _ (Only.of_below (bel_one _).drew)) (fun hHeld => ?_)
    clear hK K
    (try go_frame)
    refine wpAnyH_ready (rs := [26]) (by kernel_rfl) (by simp) (AllReadyH.cons rfl (fun K hK => ?_) AllReadyH.nil)
    refine step_append_lies _ rfl (.tmp 17) (.tmp 38) 55 rfl 0 63 i0 _ 6 48 Tryz.underlying55 (unhide HI0) (unhide HZ0) (unhide HZ1) (unhide HZ2) rfl (by omega) (.slice ab s.G.length cb) s.G.length (gcells s.G) (by rfl) (World.ownsRow.drew (World.ownsRow.alloc (World.ownsRow.alloc (unhide HBe) _) _)) ⟨w2.heap.size + 1, 0, none⟩ 1 1 (gcs ⟨fl, sq, sz, rd, s.now, false, false⟩) (by rfl) (by rfl) (World.news_of_block (cs := #[.int .i64 fl, .int .i64 sq, .int .i64 sz, .int .i64 rd, .int .i64 s.now, .int .i64 (s.now + sz)]) (t := 63) (fr := (0, 0)) (is_new2 w2 _ _ _)) (by simp [gcs, Value.oneCell']) (by omega) (by unfold maxLen; omega) (by omega) (Nat.zero_le _) (w2.heap.size + 2) (by show ((w2.alloc _).alloc _).heap.size = _; rw [World.size_alloc, World.size_alloc]) ?_
    intro g cap w3 hown hgrow hat hlt
    have hO3 := (Only.of_below (S := fun i => s1.o i = 6) ((bel_one (w := w2.alloc (.cells #[.int .i64 fl, .int .i64 sq, .int .i64 sz, .int .i64 rd] 118)) (.cells #[.int .i64 fl, .int .i64 sq, .int .i64 sz, .int .i64 rd, .int .i64 s.now, .int .i64 (s.now + sz)] 63)).drew)).grown hgrow (fun k e _ => unhide HSt k e)
    have hX := unhide HOn w3 _ hown _ ((bel_then (bel_one _) (bel_one _)).drew) hgrow (fun g' hg' => hat.imp (fun e => e.trans hg') (fun e => by have e' : g = g' := Option.some.inj hg'; omega))
    have hc2 := hX.1.cell (j := 6) rfl
    have hz2 := hX.1.frozen 6
    have HX := hide hX
    refine hK.out _ _ (unhide HSo _ hO3) (fun hHeld => ?_)
    clear hK K hX hown hgrow hat hlt hO3
    (try go_frame)
    refine wpAnyH_take (i := 27) (v := ?_) rfl (by kernel_rfl) (by kernel_rfl) (by kernel_rfl) (fun _ _ _ h => h) (Or.inl ⟨by rfl, ?_⟩) (by assumption) ?_
    rotate_left
    · intro w hSw; (try dsimp only at hSw); go_simp; (try rfl)
    (try go_frame)
    refine wpAnyH_take (i := 28) (v := ?_) rfl (by kernel_rfl) (by kernel_rfl) (by kernel_rfl) (fun _ _ _ h => h) (Or.inl ⟨by rfl, ?_⟩) (by assumption) ?_
    rotate_left
    · intro w hSw; (try dsimp only at hSw); go_simp; (try rfl)
    (try go_frame)
    refine wpAnyH_ready (rs := [29]) (by kernel_rfl) (by simp) (AllReadyH.cons rfl (fun K hK => ?_) AllReadyH.nil)
    go_simp
    refine hK.out _ _ (unhide HSc _ _ hHeld) (fun hHeld => ?_)
    clear hK K
    refine wpAnyH_done (by kernel_rfl) ?_ _
    clear hHeld hc2 hz2
    go_wp2_with fail
    go_end0
    exact ⟨rfl, s1, fl, sq, sz, rd, _, _, unhide HR, (unhide HX).2⟩
end Go.Proofs.YtcnmajndackohaaGreatDoor
/-
  What the program's begin does, whole.
-/
namespace Go.Proofs.YtcnmajndackohaaGreatDoor
open Go.RowKit

set_option maxRecDepth 100000 in
set_option maxHeartbeats 2000000 in
theorem pbegin_busy (w : World) (P : Nat) (s : PS) (h : PM w P s) (hbz : s.busy = true) (hG : s.G.length ≤ 1000000000) :
    Calls Tryz.prog 92 #[.pointer (some ⟨s.Q, 0, none⟩)] w fun e w' => e = .returned (.tuple #[]) ∧ PTo w P s w' s := by
  have HB := hide (pbusyD w P s h.toPN hG)
  rw [hbz] at HB
  have HH := hide h
  clear h hbz hG
  go_enter Tryz.func92, Tryz.ntmps92
  go_wp2_with fail
  refine (unhide HB).mono ?_
  rintro e w1 ⟨rfl, m, rfl⟩
  clear HB
  go_wp2_with fail
  refine bodyPost_ret (results_none rfl _ _ _) rfl ?_
  exact ⟨rfl, (PTo.refl (unhide HH)).below (drewN_bel (Below.refl _ _) m)⟩
set_option maxRecDepth 100000 in
set_option maxHeartbeats 2000000 in
theorem pbegin_idle (w : World) (P : Nat) (s : PS) (h : PM w P s) (hbz : s.busy = false) (hG : s.G.length ≤ 1000000000) (hH : s.H = []) (hO : s.O = []) :
    Calls Tryz.prog 92 #[.pointer (some ⟨s.Q, 0, none⟩)] w fun e w' => e = .returned (.tuple #[]) ∧ PTo w P s w' s := by
  have HB := hide (pbusyD w P s h.toPN hG)
  rw [hbz] at HB
  have HH := hide h
  have HNx := hide (fun m => pnext_none (w.drewN m) P s (h.below (drewN_bel (Below.refl _ _) m)) hH hO)
  clear h hbz hG hH hO
  go_enter Tryz.func92, Tryz.ntmps92
  go_wp2_with fail
  refine (unhide HB).mono ?_
  rintro e w1 ⟨rfl, m, rfl⟩
  clear HB
  go_wp2_with fail
  refine (unhide HNx m).mono ?_
  rintro e w2 ⟨rfl, hb2⟩
  have HB2 := hide hb2
  clear hb2 HNx
  go_wp2_with fail
  refine bodyPost_ret (results_none rfl _ _ _) rfl ?_
  exact ⟨rfl, ((PTo.refl (unhide HH)).below (drewN_bel (Below.refl _ _) m)).below (unhide HB2) |>.below (bel_one _)⟩
/-- What begin asks of a line. -/
structure Bgo (s : PS) : Prop where
  g : s.G.length ≤ 1000000000
  n0 : 0 ≤ s.now
  n1 : s.now ≤ 1000000000000
  h : s.H.length ≤ 4000000
  fl : ∀ e ∈ s.H, ∃ (k : Nat) (f : FS), e.flow = (k : Int) ∧ s.fs k = some f
  wa : ∀ k f, s.fs k = some f → -1000000000 ≤ f.wa ∧ f.wa ≤ 1000000000
  k1 : ∀ k f, s.fs k = some f → (k : Int) ≤ 9223372036854775807
  hs : ∀ e ∈ s.H, 1 ≤ e.size ∧ e.size ≤ 8
  os : ∀ p ∈ s.O, 1 ≤ p.size ∧ p.size ≤ 8
  ol : s.O.length ≤ 1000000000
theorem pbegin (w : World) (P : Nat) (s : PS) (h : PM w P s) (b : Bgo s) :
    Calls Tryz.prog 92 #[.pointer (some ⟨s.Q, 0, none⟩)] w fun e w' => e = .returned (.tuple #[]) ∧ ∃ s', Beg s s' ∧ PTo w P s w' s' := by
  cases hbz : s.busy with
  | true => exact (pbegin_busy w P s h hbz b.g).mono fun e w' ⟨h1, h2⟩ => ⟨h1, s, .inl ⟨.inl hbz, rfl⟩, h2⟩
  | false =>
    by_cases hH : s.H = []
    · cases hO : s.O with
      | nil => exact (pbegin_idle w P s h hbz b.g hH hO).mono fun e w' ⟨h1, h2⟩ => ⟨h1, s, .inl ⟨.inr ⟨hH, hO⟩, rfl⟩, h2⟩
      | cons p tl =>
        have hl : tl.length ≤ 1000000000 := by have := b.ol; rw [hO] at this; simp at this; omega
        have hp := b.os p (by rw [hO]; exact List.mem_cons_self ..)
        refine (pbegin_rest w P s h hbz b.g ⟨b.n0, b.n1⟩ (fun s1 fl sq sz rd => (fl = p.flow ∧ sq = p.seq ∧ sz = p.size ∧ rd = toTick p.ready) ∧ ∃ v', s1 = { s with O := tl, vo := v' }) (fun m => ?_)).mono ?_
        · refine (pnext_other (w.drewN m) P s (h.below (drewN_bel (Below.refl _ _) m)) hH p tl hO hl).mono ?_
          rintro e w' ⟨h1, v', h2⟩
          exact ⟨_, _, _, _, _, h1, hp, h2, ⟨⟨rfl, rfl, rfl, rfl⟩, v', rfl⟩, rfl, rfl⟩
        · rintro e w' ⟨h1, s1, fl, sq, sz, rd, vb, o, ⟨⟨rfl, rfl, rfl, rfl⟩, v', rfl⟩, h2⟩
          exact ⟨h1, _, .inr (.inl ⟨hbz, hH, p, tl, v', vb, o, hO, rfl⟩), h2⟩
    · have h0 : 0 < s.H.length := List.length_pos_iff.2 hH
      refine (pbegin_rest w P s h hbz b.g ⟨b.n0, b.n1⟩ (fun s1 fl sq sz rd => ∃ (x : En) (H' : List En) (v' : Value) (o' : Whose) (k : Nat) (f : FS), (fl = x.flow ∧ sq = x.seq ∧ sz = x.size ∧ rd = x.ready) ∧ s.H.Perm (x :: H') ∧ (∀ y ∈ s.H, x.le y) ∧ x.flow = (k : Int) ∧ s.fs k = some f ∧
        s1 = { s with H := H', vr := v', o := o', fs := upd s.fs k { f with wa := f.wa - 1 } }) (fun m => ?_)).mono ?_
      · refine (pnext_flow (w.drewN m) P s (h.below (drewN_bel (Below.refl _ _) m)) h0 b.h b.fl b.wa b.k1).mono ?_
        rintro e w' ⟨x, H', v', o', k, f, h1, h2, h3, h4, h5, h6⟩
        exact ⟨_, _, _, _, _, h1, b.hs x (h2.mem_iff.2 (List.mem_cons_self ..)), h6, ⟨x, H', v', o', k, f, ⟨rfl, rfl, rfl, rfl⟩, h2, h3, h4, h5, rfl⟩, rfl, rfl⟩
      · rintro e w' ⟨h1, s1, fl, sq, sz, rd, vb, o, ⟨x, H', v', o', k, f, ⟨rfl, rfl, rfl, rfl⟩, h2, h3, h4, h5, rfl⟩, h6⟩
        exact ⟨h1, _, .inr (.inr ⟨hbz, x, H', v', vb, o, k, f, h2, h3, h4, h5, rfl⟩), h6⟩
end Go.Proofs.YtcnmajndackohaaGreatDoor
/-
  What the program's settle does: flows that linger are away, if nothing of any flow is ready or under way.
-/
namespace Go.Proofs.YtcnmajndackohaaGreatDoor
open Go.RowKit

/-- What is left of the flows while they are gone through: those that do not linger, or are still to come. -/
def fsL (fs : Nat → Option FS) (left : Nat → Bool) : Nat → Option FS := fun k => (fs k).bind fun f => if f.torn && !left k then none else some f
theorem fsL_start (fs : Nat → Option FS) : fsL fs (fun k => (adrs fs k).isSome) = fs := by
  funext k
  unfold fsL adrs
  cases h : fs k <;> simp [h]
theorem fsL_sub {fs : Nat → Option FS} {left : Nat → Bool} {k : Nat} {f : FS} (h : fsL fs left k = some f) : fs k = some f := by
  unfold fsL at h
  cases hk : fs k with
  | none => rw [hk] at h; cases h
  | some g =>
    rw [hk] at h
    simp only [Option.bind_some] at h
    split at h
    · cases h
    · exact h
theorem fsL_struck {fs : Nat → Option FS} {left : Nat → Bool} {k : Nat} {f : FS} (hk : fs k = some f) (ht : f.torn = true) : (fun j => if j = k then none else adrs (fsL fs left) j) = adrs (fsL fs (fun j => left j && !decide (j = k))) := by
  funext j
  by_cases e : j = k
  · subst e
    unfold adrs fsL
    simp [hk, ht]
  · unfold adrs fsL
    simp [e]
theorem fsL_stays {fs : Nat → Option FS} {left : Nat → Bool} {k : Nat} {f : FS} (hk : fs k = some f) (ht : f.torn = false) : fsL fs (fun j => left j && !decide (j = k)) = fsL fs left := by
  funext j
  by_cases e : j = k
  · subst e
    unfold fsL
    simp [hk, ht]
  · unfold fsL
    simp [e]
theorem strike2 (left : Nat → Bool) (k : Nat) : (fun j => (left j && !decide (j = k)) && !decide (j = k)) = fun j => left j && !decide (j = k) := by
  funext j
  cases left j <;> simp
section
variable {w w' : World} {P : Nat} {s : PS} {S : Nat → Prop}
theorem PN.keepM (h : PN w P s) (ho : Only S w w') (hs : ∀ i, S i → s.o i = 0 ∨ s.o i = 3) : PN w' P s := by
  have ne : ∀ (c : Nat), c ≠ 0 → c ≠ 3 → ∀ i, S i → s.o i ≠ c := fun c h0 h3 i hi e => by have := hs i hi; omega
  exact ⟨fun i hi => h.free i (Nat.le_trans ho.size hi), h.inn.only ho (fun g => ne 2 (by decide) (by decide) _ g h.oQ), h.oQ, h.oM, h.rd.keep h.ord ho (ne 4 (by decide) (by decide)), h.ord,
    h.ot.keep ho (ne 5 (by decide) (by decide)) (fun _ _ => rfl), h.be.keep ho (ne 6 (by decide) (by decide)) (fun _ _ => rfl), fun k f hf => (h.fl k f hf).keep ho (fun i hi => ⟨ne _ (by omega) (by omega) i hi, ne _ (by omega) (by omega) i hi⟩) (fun _ _ => rfl), h.hp⟩
theorem PN.sub (h : PN w P s) {fs : Nat → Option FS} (hf : ∀ k f, fs k = some f → s.fs k = some f) : PN w P { s with fs := fs } :=
  ⟨h.free, h.inn, h.oQ, h.oM, h.rd, h.ord, h.ot, h.be, fun k f hk => h.fl k f (hf k f hk), h.hp⟩
end
/-- The line behind it. -/
def PS.settle (s : PS) : PS := if 0 < s.H.length ∨ s.carries = true then s else { s with fs := fsL s.fs fun _ => false }
set_option maxRecDepth 100000 in
set_option maxHeartbeats 2000000 in
theorem psettle_stay (w : World) (P : Nat) (s : PS) (h : PM w P s) (hG : s.G.length ≤ 1000000000) (hx : 0 < s.H.length ∨ s.carries = true) :
    Calls Tryz.prog 91 #[.pointer (some ⟨s.Q, 0, none⟩)] w fun e w' => e = .returned (.tuple #[]) ∧ PTo w P s w' s := by
  obtain ⟨ar, cr, hr⟩ := h.rdLen
  have c3 := h.c3
  rw [hr] at c3
  have HC := hide (pcarriesD w P s h.toPN hG)
  have HH := hide h
  by_cases h0 : 0 < s.H.length
  · have h0' : (0 : Int) < (s.H.length : Int) := by omega
    clear h hr hG hx HC
    go_enter Tryz.func91, Tryz.ntmps91
    go_wp2_with fail
    refine bodyPost_ret (results_none rfl _ _ _) rfl ?_
    exact ⟨rfl, PTo.refl (unhide HH)⟩
  · have hc : s.carries = true := hx.resolve_left h0
    have hz : s.H.length = 0 := by omega
    rw [hz] at c3
    rw [hc] at HC
    clear h hr hG hx hc h0 hz
    go_enter Tryz.func91, Tryz.ntmps91
    go_wp2_with fail
    refine (unhide HC).mono ?_
    rintro e w1 ⟨rfl, m, rfl⟩
    clear HC
    go_wp2_with fail
    refine bodyPost_ret (results_none rfl _ _ _) rfl ?_
    exact ⟨rfl, (PTo.refl (unhide HH)).below (drewN_bel (Below.refl _ _) m)⟩
set_option maxRecDepth 100000 in
set_option maxHeartbeats 2000000 in
theorem psettle_go (w : World) (P : Nat) (s : PS) (h : PM w P s) (hG : s.G.length ≤ 1000000000) (hH : s.H.length = 0) (hc : s.carries = false) (hk1 : ∀ k f, s.fs k = some f → (k : Int) ≤ 9223372036854775807) :
    Calls Tryz.prog 91 #[.pointer (some ⟨s.Q, 0, none⟩)] w fun e w' => e = .returned (.tuple #[]) ∧ PTo w P s w' { s with fs := fsL s.fs fun _ => false } := by
  obtain ⟨ar, cr, hr⟩ := h.rdLen
  have c3 := h.c3
  rw [hr, hH] at c3
  have HC := hide (pcarriesD w P s h.toPN hG)
  rw [hc] at HC
  have HH := hide h
  have HK1 := hide hk1
  clear h hr hG hc hH hk1
  go_enter Tryz.func91, Tryz.ntmps91
  go_wp2_with fail
  refine (unhide HC).mono ?_
  rintro e W ⟨rfl, m, hW⟩
  have HT := hide (show PTo w P s W s from (PTo.refl (unhide HH)).below (by rw [hW]; exact drewN_bel (Below.refl _ _) m))
  have HM1 := hide (unhide HT).pm.map
  have c1 := (unhide HT).pm.c1
  have HSz := hide (show W.heap.size = w.heap.size by rw [hW]; rfl)
  clear HC hW c3
  go_wp2_with (at_range; refine wpList_range_F _ rfl _ rfl rfl (unhide HM1) ?_; intro w0 hrg0 hb0 hs0)
  go_frame
  have HB0 := hide hb0
  have HR0 := hide hrg0
  clear hrg0 hb0 hs0 c1 HM1
  go_loopw [2] (fun _ wr => ∃ left : Nat → Bool, PN wr P s ∧ RangeF wr s.M W.heap.size (adrs (fsL s.fs left)) left ∧ Only (fun i => i = s.M) W wr) (fun _ wr => wr.rangeLeft s.M W.heap.size)
  case atStart => exact ⟨_, (unhide HT).pm.toPN.keepM (S := fun _ => False) (Only.of_below (unhide HB0)) (fun _ k => k.elim), by rw [fsL_start]; exact unhide HR0, Only.of_below (unhide HB0)⟩
  case round =>
    obtain ⟨left, hPN, hR, hO⟩ := hrel
    have HPN := hide hPN
    have HR := hide hR
    have HO := hide hO
    clear hPN hR hO
    go_wp2_with (at_next; refine wpList_next_F _ rfl _ rfl rfl (unhide HR) ?_ ?_)
    · intro hl0
      have hle : left = fun _ => false := funext hl0
      go_wp2_with fail
      go_end0
      subst hle
      exact ⟨rfl, (unhide HT).trans ⟨⟨(unhide HPN).sub (fun k f hk => fsL_sub hk), (unhide HR).map⟩, (unhide HO).mono fun i _ e => by rw [e, (unhide HH).oM]; decide, fun _ _ => rfl, rfl⟩⟩
    · intro k b w1 hlk hmk hR1 hlt hO1 hsz hen
      have hfk : ∃ f, s.fs k = some f ∧ f.a = b := by
        unfold adrs at hmk
        obtain ⟨f, hf, hfa⟩ := Option.map_eq_some_iff.1 hmk
        exact ⟨f, fsL_sub hf, hfa⟩
      obtain ⟨f, hf, rfl⟩ := hfk
      have hPN1 := (unhide HPN).keepM hO1 (fun i e => .inl (by rw [e]; exact (unhide HT).pm.free _ (Nat.le_refl _)))
      have hOO := (unhide HO).trans hO1 (fun i hi e => by omega)
      have c15 := (hPN1.fl k f hf).c15
      have c1 := hPN1.c1
      have hk1 := unhide HK1 k f hf
      have HPN1 := hide hPN1
      have HO1 := hide hOO
      have HR1 := hide hR1
      have HF := hide hf
      have HLt := hide hlt
      clear hPN1 hOO hR1 hO1 hf hmk hlt
      cases ht : f.torn
      · rw [ht] at c15
        have HTo := hide ht
        clear ht
        go_wp2_with fail
        go_roundw
        case rel =>
          exact ⟨fun j => left j && !decide (j = k), unhide HPN1, by rw [fsL_stays (unhide HF) (unhide HTo)]; exact unhide HR1, unhide HO1⟩
        case measure => exact unhide HLt
      · rw [ht] at c15
        have HTo := hide ht
        clear ht
        go_wp2_with (at_delete; refine wpList_delete_F _ rfl _ _ rfl rfl (unhide HR1) k hk1 rfl ?_; intro w2 hR2 hle2 hO2 hs2; go_frame)
        go_roundw
        case rel =>
          refine ⟨fun j => left j && !decide (j = k), (unhide HPN1).keepM hO2 (fun i e => .inr (by rw [e]; exact (unhide HH).oM)), ?_, (unhide HO1).trans hO2 (fun i _ e => e)⟩
          rw [strike2] at hR2
          rw [← fsL_struck (unhide HF) (unhide HTo)]
          exact hR2
        case measure => exact Nat.lt_of_le_of_lt hle2 (unhide HLt)
theorem psettle (w : World) (P : Nat) (s : PS) (h : PM w P s) (hG : s.G.length ≤ 1000000000) (hk1 : ∀ k f, s.fs k = some f → (k : Int) ≤ 9223372036854775807) :
    Calls Tryz.prog 91 #[.pointer (some ⟨s.Q, 0, none⟩)] w fun e w' => e = .returned (.tuple #[]) ∧ PTo w P s w' s.settle := by
  unfold PS.settle
  by_cases hx : 0 < s.H.length ∨ s.carries = true
  · rw [if_pos hx]; exact psettle_stay w P s h hG hx
  · rw [if_neg hx]
    have h1 : ¬ 0 < s.H.length := fun e => hx (.inl e)
    have h2 : ¬ s.carries = true := fun e => hx (.inr e)
    exact psettle_go w P s h hG (by omega) (by simpa using h2) hk1
end Go.Proofs.YtcnmajndackohaaGreatDoor
