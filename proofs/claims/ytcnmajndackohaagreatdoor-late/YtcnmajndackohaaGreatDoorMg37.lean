import Derived.Test.YtcnmajndackohaaGreatDoorMg15
import Derived.Test.YtcnmajndackohaaGreatDoorMg23
import Derived.Test.YtcnmajndackohaaGreatDoorMg05
import Derived.Test.YtcnmajndackohaaGreatDoorMg14
/-
  Plain: where flows do not fit something that has gone is late.
-/
namespace Go.Proofs.YtcnmajndackohaaGreatDoor
open Go.RowKit

/-- The play behind the bringing. -/
structure Ltm (t S : Int) (s : Pst) : Prop where
  lz : Lz t S s.x
  stb : Stb s.x
  tg : Tg s.x s.gone
  flw : Flw s.x
  calm : ∀ p ∈ s.gone, calm p
theorem run_hund (x : Ln) : x.run 100 = (0, x.ticks 100) := by
  unfold Ln.run
  rw [if_neg (by decide)]; rfl
theorem runs_xfl (s : Pst) (t : Int) : (s.runs t).x.fl = (s.x.run t).2.fl := rfl
theorem Ltm.runs {t S : Int} {s : Pst} {n : Nat} (hS : 0 < S) (ht : t < S + 7) (h : Ltm t S s) (hb : Bnd s n) (hn : n < 1000) (hl : s.x.fl.length ≤ 100000) : Ltm t S (s.runs 100) ∧ (∀ p ∈ (s.runs 100).x.pk, 0 ≤ p.start → p.start + p.size ≤ (s.runs 100).x.now → ∃ g ∈ (s.runs 100).gone, untold g = untold p) ∧ (s.runs 100).x.now = s.x.now + 100 := by
  have hz := h.lz.ticks hS ht 100
  have hs := stb_ticks h.lz.inv h.stb 100
  have hg := tg_ticks h.lz.inv h.tg 100
  have hf : Flw (s.x.run 100).2 := flw_run h.flw 100
  have hsm := hb.x.run 100
  have hfl : ((s.x.run 100).2).fl.length = s.x.fl.length := by
    have := congrArg List.length (ticks_fl 100 s.x)
    rw [run_hund]
    simpa using this
  have e : (s.x.run 100).2 = s.x.ticks 100 := by rw [run_hund]
  have ex : (s.runs 100).x = (s.x.ticks 100).gone.2 := by show (s.x.run 100).2.gone.2 = _; rw [e]
  have eg : (s.runs 100).gone = s.gone ++ (s.x.ticks 100).gone.1 := by show s.gone ++ (s.x.run 100).2.gone.1 = _; rw [e]
  rw [e] at hf hsm hfl
  refine ⟨⟨?_, ?_, ?_, ?_, ?_⟩, ?_, ?_⟩
  · rw [ex]; exact hz.gone
  · rw [ex]; exact stb_gone hs
  · rw [ex, eg]; exact tg_gone hz.inv hg
  · rw [ex]; exact flw_gone hf
  · rw [eg]
    intro p hp
    rcases List.mem_append.1 hp with q | q
    · exact h.calm p q
    · exact gone_calm hz.inv hf hsm (by omega) (by omega) p q
  · rw [ex, eg]; exact gone_all hz.inv hs hg
  · rw [ex]; show (s.x.ticks 100).now = _
    rw [(ticks_sk 100 s.x).1]; rfl
/-- One that is late is told. -/
def Told (s : Pst) : Prop := (∀ p ∈ s.gone, calm p) ∧ ∃ g ∈ s.gone, 0 ≤ g.flow ∧ g.ready + dueOf s.x.fl g.flow < g.start + g.size
theorem waits_zero {x : Ln} (h : x.waits = 0) (k : Nat) : x.waiting k = 0 := by
  unfold Ln.waits at h
  unfold Ln.waiting
  rw [List.countP_eq_zero] at h ⊢
  intro p hp c
  refine h p hp ?_
  simp only [Bool.and_eq_true, decide_eq_true_eq] at c ⊢
  exact ⟨⟨by omega, c.1.2⟩, c.2⟩
theorem ltm_idle {t S : Int} {s : Pst} (hS : 0 < S) (ht : t < S + 7) (h : Ltm t S s) (hG : ∀ p ∈ s.x.pk, 0 ≤ p.start → p.start + p.size ≤ s.x.now → ∃ g ∈ s.gone, untold g = untold p) (hi : s.idle = true) : Told s := by
  unfold Pst.idle at hi
  simp only [Bool.and_eq_true, beq_iff_eq, Bool.not_eq_true'] at hi
  obtain ⟨⟨h1, h2⟩, h3⟩ := hi
  have hall := all_told h.lz.inv (fun p hp => (h.lz.ps p hp).1) (fun p hp => (h.flw p hp).1) (fun k _ => waits_zero h1 k) h2 h3
  exact ⟨h.calm, late_end hS ht h.lz hall hG⟩
theorem ltm_drain {t S : Int} (hS : 0 < S) (ht : t < S + 7) : ∀ (k : Nat) {s : Pst} {n : Nat}, Ltm t S s → Bnd s n → n + (k + 1) ≤ 1000 → s.x.fl.length ≤ 100000 → 1549 ≤ s.x.now + 100 * (k + 1) → Told (s.drain (k + 1)) := by
  intro k
  induction k with
  | zero =>
    intro s n h hb hn hl hnow
    obtain ⟨a, b, c⟩ := h.runs hS ht hb (by omega) hl
    have e : s.drain 1 = s.runs 100 := by
      show (if (s.runs 100).idle = true then s.runs 100 else (s.runs 100).drain 0) = _
      split <;> rfl
    rw [e]
    have hall := all_ended a.lz.inv (by
      rcases a.lz.all1 (by omega) with q | q
      · exact q
      · omega)
    exact ⟨a.calm, late_end hS ht a.lz hall b⟩
  | succ k ih =>
    intro s n h hb hn hl hnow
    obtain ⟨a, b, c⟩ := h.runs hS ht hb (by omega) hl
    have e : s.drain (k + 1 + 1) = if (s.runs 100).idle = true then s.runs 100 else (s.runs 100).drain (k + 1) := rfl
    rw [e]
    split
    · rename_i hi
      exact ltm_idle hS ht a b hi
    · refine ih (n := n + 1) a (hb.runs (by omega) 100) (by omega) ?_ (by omega)
      have := congrArg List.length (ticks_fl 100 s.x)
      have e2 : (s.runs 100).x.fl = (s.x.ticks 100).fl := by rw [runs_xfl, run_hund]
      rw [e2]
      simp only [List.length_map] at this
      omega
end Go.Proofs.YtcnmajndackohaaGreatDoor
/-
  What the keeper's fit does: the least violation, whether there is none, and true.
-/
namespace Go.Proofs.YtcnmajndackohaaGreatDoor
open Go.RowKit

theorem viol_nil : viol [] = 0 := by
  rcases viol_spec [] with ⟨h, _⟩ | ⟨_, _, h, _⟩
  · exact h
  · simp [vioB, tot] at h
theorem viol_one : viol [⟨8, 12, 8, 0, 14⟩] = 14 := by decide +kernel
theorem tno_nil : tno [] = 0 := by unfold tno; rw [if_pos viol_nil]
theorem tno_one : tno [⟨8, 12, 8, 0, 14⟩] = 3 := by unfold tno; rw [if_neg (by rw [viol_one]; decide)]
theorem may_one : ∀ f ∈ [(⟨8, 12, 8, 0, 14⟩ : Fl)], f.may := by
  intro f hf
  rw [List.mem_singleton] at hf
  subst hf
  unfold Fl.may
  constructor <;> decide

set_option maxRecDepth 100000 in
set_option maxHeartbeats 2000000 in
theorem kfit_any (v : Value) (l : List Fl) (a0 a1 : Addr) (w : World) (hg : Gl w a0 a1) (hw : Fls w v l) (hl : l.length ≤ 6) (hm : ∀ f ∈ l, f.may) :
    Calls Tryz.prog 20 #[v] w fun e w' => e = .returned (.tuple #[.int .i64 (viol l), .bool (decide (viol l = 0)), .bool true]) ∧ Below w.heap.size w w' := by
  have HG := hide hg
  have HW := hide hw
  have HL := hide hl
  have HM := hide hm
  clear hg hw hl hm
  go_enter Tryz.func20, Tryz.ntmps20
  go_wp2_with fail
  refine (test_any v l a0 a1 _ (unhide HG) (unhide HW) (unhide HL) (unhide HM)).mono ?_
  rintro e w1 ⟨rfl, hb⟩
  have HB := hide hb
  have HG1 := hide ((unhide HG).below hb)
  clear hb HG
  have HV := hide (show tno l = if viol l = 0 then 0 else 3 from rfl)
  generalize tno l = E at *
  generalize hVl : viol l = V at *
  have HVl := hide hVl
  clear hVl
  go_wp2_with fail
  refine (test_any (.slice none 0 0) [] a0 a1 _ (unhide HG1) (.inl ⟨rfl, _, _, rfl⟩) (by decide) (fun f hf => by cases hf)).mono ?_
  rintro e w2 ⟨rfl, hb⟩
  have HB2 := hide (bel_then (unhide HB) hb)
  have HG2 := hide ((unhide HG1).below hb)
  clear hb HB HG1
  rw [viol_nil, tno_nil]
  go_wp2_with fail
  have hli : Lies (w2.alloc (.cells #[.int .i64 8, .int .i64 12, .int .i64 8, .int .i64 0, .int .i64 14] 35)) w2.heap.size 0 [⟨8, 12, 8, 0, 14⟩] := by
    refine ⟨by simp, ?_, ?_, ?_, ?_, ?_⟩
    all_goals intro k hk
    all_goals have hk0 : k = 0 := by simpa using hk
    all_goals subst hk0
    · exact World.cell?_alloc_new _ _ _ 0
    · exact World.cell?_alloc_new _ _ _ 1
    · exact World.cell?_alloc_new _ _ _ 2
    · exact World.cell?_alloc_new _ _ _ 3
    · exact World.cell?_alloc_new _ _ _ 4
  refine (test_any (.slice (some ⟨w2.heap.size, 0, none⟩) 1 1) [⟨8, 12, 8, 0, 14⟩] a0 a1 _ ((unhide HG2).below (bel_one _)) (.inr ⟨_, _, _, rfl, hli⟩) (by decide) may_one).mono ?_
  rintro e w3 ⟨rfl, hb⟩
  have HB3 := hide (bel_then (bel_then (unhide HB2) (bel_one _)) hb)
  clear hb HB2 HG2 hli
  rw [viol_one, tno_one]
  by_cases hv : V = 0
  · have hE : E = 0 := by rw [unhide HV, if_pos hv]
    subst hE
    subst hv
    go_wp2_with fail
    go_ret3
    exact ⟨ret_val (by rw [unhide HVl]; rfl), unhide HB3⟩
  · have hE : E = 3 := by rw [unhide HV, if_neg hv]
    subst hE
    have hv1 : (V == 0) = false := beq_eq_false_iff_ne.2 hv
    have HD := hide (decide_eq_false hv)
    clear hv
    go_wp2_with fail
    go_ret3
    exact ⟨ret_val (by rw [unhide HVl, unhide HD]; rfl), unhide HB3⟩
end Go.Proofs.YtcnmajndackohaaGreatDoor
/-
  What Late does, whatever memory a line has.
-/
namespace Go.Proofs.YtcnmajndackohaaGreatDoor
open Go.RowKit

/-- The play at the tick 1. -/
def lst (L : List Fl) (x : Ln) : Pst := ⟨x, L, List.replicate L.length [], [], []⟩
def lx1 (L : List Fl) : Ln := ⟨1, L.map fun f => ⟨f, 0⟩, [p0], [0]⟩
theorem lst_one (L : List Fl) : ({ pst L with x := ((Ln.new L).other 8).2 } : Pst).runs 1 = lst L (lx1 L) := by
  have e1 := late_start L
  have e2 := late_one L
  have e3 := late_gone L
  show (⟨((((Ln.new L).other 8).2).run 1).2.gone.2, L.take L.length, List.replicate L.length [], [], [] ++ ((((Ln.new L).other 8).2).run 1).2.gone.1⟩ : Pst) = _
  rw [e1, e2, e3, List.take_length]
  rfl
theorem lst_run (L : List Fl) : (({ pst L with x := ((Ln.new L).other 8).2 } : Pst).x.run 1).1 = 0 := by
  show ((((Ln.new L).other 8).2).run 1).1 = 0
  rw [late_start, late_one]
theorem lst_pin {L : List Fl} (h : ∀ f ∈ L, f.may) {x : Ln} (hx : x.fl = L.map fun f => ⟨f, 0⟩) : Pin (lst L x) := by
  refine ⟨?_, ?_, h⟩
  · show x.fl.map Stt.f = L
    rw [hx, List.map_map]; exact List.map_id' L
  · show (List.replicate L.length ([] : List Int)).length = L.length
    simp
theorem lst_bnd {L : List Fl} {x : Ln} {n : Nat} (h : Sml x n) : Bnd (lst L x) n := by
  refine ⟨h, Nat.zero_le _, fun l hl => ?_, Nat.zero_le _⟩
  have hl' : l ∈ List.replicate L.length ([] : List Int) := hl
  rw [List.eq_of_mem_replicate hl']
  exact Nat.zero_le _
theorem lst_ltm {t : Int} {L : List Fl} {x : Ln} (s : Snd t L x L.length 0) (t1 : 1 ≤ t) (t2 : t ≤ 1300) (h : tot t L ≤ 240) : Ltm t (tot t L) (lst L x) := by
  refine ⟨snd_end s t1 t2 h, s.stb, tg_start s _, fun p hp => ?_, fun p hp => by cases hp⟩
  obtain ⟨us, e, _, hu⟩ := s.us
  have hp' : p ∈ x.pk := hp
  rw [e] at hp'
  rcases List.mem_cons.1 hp' with q | q
  · rw [q]; exact ⟨by decide, by decide⟩
  · have := hu p q
    omega
theorem told_late {s : Pst} (hp : Pin s) (h : Told s) : s.gone.all (fun p => !lateB s.fl p) = false := by
  obtain ⟨_, g, hg, h0, h1⟩ := h
  rw [← Bool.not_eq_true, List.all_eq_true]
  intro c
  have := c g hg
  have hl : lateB s.fl g = true := by
    unfold lateB
    by_cases hq : (s.fl.length : Int) ≤ g.flow
    · rw [decide_eq_true hq]; rfl
    · cases hz : s.x.fl[g.flow.toNat]? with
      | none =>
        rw [List.getElem?_eq_none_iff] at hz
        have : s.x.fl.length = s.fl.length := by rw [← hp.fl, List.length_map]
        omega
      | some st =>
        have e1 : s.fl[g.flow.toNat]? = some st.f := by rw [← hp.fl, List.getElem?_map, hz]; rfl
        have e2 : dueOf s.x.fl g.flow = st.f.d := by unfold dueOf; rw [hz]
        rw [e2] at h1
        simp only [e1, Bool.or_eq_true, decide_eq_true_eq, Bool.and_eq_true]
        exact .inr ⟨h0, h1⟩
  rw [hl] at this; cases this
theorem drain_pin : ∀ (k : Nat) {s : Pst}, Pin s → Pin (s.drain k)
  | 0, _, h => h
  | k + 1, s, h => by
    unfold Pst.drain
    split
    · exact h.runs 100
    · exact drain_pin k (h.runs 100)
/-- What comes of it. -/
theorem late_all {t : Int} {L : List Fl} {x : Ln} {n : Nat} (hL : ∀ f ∈ L, f.may) (h6 : L.length ≤ 6) (s : Snd t L x L.length 0) (t1 : 1 ≤ t) (t2 : t ≤ 1300) (h40 : ∀ f ∈ L, f.e t ≤ 40) (hv : 0 < tot t L ∧ t < tot t L + 7) (hs : Sml x n) (hn : n ≤ 500) :
    ((lst L x).drain 100).gone.all (fun p => !lateB ((lst L x).drain 100).fl p) = false ∧ (∀ p ∈ ((lst L x).drain 100).gone, calm p) ∧ (∀ f ∈ ((lst L x).drain 100).fl, f.may) ∧ ((lst L x).drain 100).gone.length ≤ 1000000000 := by
  have h240 : tot t L ≤ 240 := by have := tot_forty h40 h6; omega
  have hfl : (lst L x).x.fl.length ≤ 100000 := by show x.fl.length ≤ _; rw [s.fl, List.length_map]; omega
  have hnow : (lst L x).x.now = 1 := s.now
  have hT := ltm_drain hv.1 hv.2 99 (lst_ltm s t1 t2 h240) (lst_bnd hs) (by omega) hfl (by omega)
  refine ⟨told_late (drain_pin 100 (lst_pin hL s.fl)) hT, hT.1, ?_, ?_⟩
  · rw [drain_fl]; exact hL
  · have := (drain_bnd (lst_bnd (L := L) hs) 100 (by omega)).go
    omega
end Go.Proofs.YtcnmajndackohaaGreatDoor
