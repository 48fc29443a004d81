import Derived.Test.YtcnmajndackohaaGreatDoorMg20
import Derived.BigQuiet
import Derived.Deep.OwnRows
import Derived.Laws.ResultCell
/-
  What the program's busy, carries, live tell.
-/
namespace Go.Proofs.YtcnmajndackohaaGreatDoor
open Go.RowKit

/-- Is a packet under way? -/
def PS.busy (s : PS) : Bool := match s.G.getLast? with
  | none => false
  | some p => decide (s.now < p.start + p.size)
def PS.carries (s : PS) : Bool := s.busy && (match s.G.getLast? with
  | none => false
  | some p => (p.flow != -1))
theorem gcat (l m : List Pk) : gcells (l ++ m) = gcells l ++ gcells m := by
  induction l with
  | nil => rfl
  | cons p l ih => simp only [List.cons_append, gcells, ih, List.append_assoc]
theorem glen (l : List Pk) : (gcells l).length = l.length * 6 := by
  induction l with
  | nil => rfl
  | cons p l ih => simp only [gcells, List.length_append, ih, List.length_cons]; show 6 + _ = _; omega
theorem row_nil {w : World} {b : Nat} {t : TypeId} {size : Nat} {v : Value} {cs : List Value} (h : w.ownsRow b t size v 0 cs) : ∃ a c, v = .slice a 0 c := by
  rcases h.2 with ⟨e1, e2⟩ | ⟨g, cap, cur, e1, _⟩
  · exact ⟨none, 0, e1⟩
  · exact ⟨_, _, e1⟩
theorem gone_last {w : World} {v : Value} {l : List Pk} {p : Pk} (h : w.ownsRow 0 63 6 v (l ++ [p]).length (gcells (l ++ [p]))) : ∃ g c, v = .slice (some ⟨g, 0, none⟩) (l.length + 1) c ∧ g < w.heap.size ∧
    w.cell? ⟨g, l.length * 6, none⟩ = some (.int .i64 p.flow) ∧ w.cell? ⟨g, l.length * 6 + 5, none⟩ = some (.int .i64 (p.start + p.size)) := by
  obtain ⟨g, c, e, _, hlt⟩ := World.ownsRow.form h (by simp)
  rw [List.length_append] at e
  have hcell : ∀ j u, (gcs p)[j]? = some u → w.cell? ⟨g, l.length * 6 + j, none⟩ = some u := fun j u hu => by
    have := World.ownsRow.cells h (g := g) (by rw [e]; rfl) (l.length * 6 + j) u (by
      rw [gcat, List.getElem?_append_right (by rw [glen]; omega), glen, Nat.add_sub_cancel_left]
      have hj : j < (gcs p).length := (List.getElem?_eq_some_iff.1 hu).1
      show (gcs p ++ [])[j]? = _
      rw [List.append_nil]; exact hu)
    rwa [show (⟨g, 0, none⟩ : Addr).add (l.length * 6 + j) = ⟨g, l.length * 6 + j, none⟩ from by unfold Addr.add; split <;> simp_all] at this
  exact ⟨g, c, e, hlt, hcell 0 _ rfl, hcell 5 _ rfl⟩
set_option maxRecDepth 100000 in
set_option maxHeartbeats 2000000 in
theorem pbusyD (w : World) (P : Nat) (s : PS) (h : PN w P s) (hG : s.G.length ≤ 1000000000) :
    Calls Tryz.prog 88 #[.pointer (some ⟨s.Q, 0, none⟩)] w fun e w' => e = .returned (.bool s.busy) ∧ ∃ m, w' = w.drewN m := by
  have c0 := h.c0
  have c6 := h.c6
  have hb := h.be.1
  rcases List.eq_nil_or_concat s.G with hx | ⟨l, p, hx⟩
  · have hB : s.busy = false := by unfold PS.busy; rw [hx]; rfl
    rw [hx] at hb
    obtain ⟨ab, cb, hv⟩ := row_nil hb
    rw [hv] at c6
    rw [hB]
    clear h hx hB hb hv hG
    generalize s.Q = Q at *
    go_enter Tryz.func88, Tryz.ntmps88
    go_wp2_with fail
    go_quiet (fail)
    go_wp2_with fail
    go_ret
    exact ⟨rfl, _, rfl⟩
  · rw [List.concat_eq_append] at hx
    have hB : s.busy = decide (s.now < p.start + p.size) := by unfold PS.busy; rw [hx]; simp
    rw [hx] at hb
    obtain ⟨g, c, hv, hg, d0, d5⟩ := gone_last hb
    rw [hv] at c6
    rw [hB]
    have hl : (l.length : Int) ≤ 1000000000 := by rw [hx] at hG; simp at hG; omega
    clear h hx hB hb hv hG d0
    generalize s.Q = Q at *
    generalize s.now = now at *
    generalize l.length = n at *
    have hs : wrap64 (((n + 1 : Nat) : Int) - 1) = (n : Int) := by rw [show ((n + 1 : Nat) : Int) - 1 = (n : Int) by omega]; go_arith
    go_enter Tryz.func88, Tryz.ntmps88
    go_wp2_with fail
    go_quiet (fail)
    go_wp2_with fail
    go_ret
    exact ⟨rfl, _, rfl⟩
theorem pbusy (w : World) (P : Nat) (s : PS) (h : PN w P s) (hG : s.G.length ≤ 1000000000) :
    Calls Tryz.prog 88 #[.pointer (some ⟨s.Q, 0, none⟩)] w fun e w' => e = .returned (.bool s.busy) ∧ Below w.heap.size w w' :=
  (pbusyD w P s h hG).mono fun _ _ ⟨he, m, hm⟩ => ⟨he, by rw [hm]; exact drewN_bel (Below.refl _ _) _⟩
theorem PN.drewN {w : World} {P : Nat} {s : PS} (h : PN w P s) (n : Nat) : PN (w.drewN n) P s := h.keep (S := fun _ => False) (Only.of_below (drewN_bel (Below.refl _ _) n)) (fun _ k => k.elim)
set_option maxRecDepth 100000 in
set_option maxHeartbeats 2000000 in
theorem pcarriesD (w : World) (P : Nat) (s : PS) (h : PN w P s) (hG : s.G.length ≤ 1000000000) :
    Calls Tryz.prog 117 #[.pointer (some ⟨s.Q, 0, none⟩)] w fun e w' => e = .returned (.bool s.carries) ∧ ∃ m, w' = w.drewN m := by
  have HB := hide (fun n => pbusyD (w.drewN n) P s (h.drewN n) hG)
  have c6 := h.c6
  have hb := h.be.1
  cases hbz : s.busy with
  | false =>
    have hC : s.carries = false := by unfold PS.carries; rw [hbz]; rfl
    rw [hC]
    rw [hbz] at HB
    clear h hG hbz hC hb c6
    generalize s.Q = Q at *
    go_enter Tryz.func117, Tryz.ntmps117
    go_wp2_with fail
    go_quiet (first | (go_at_call 88; refine Calls.quiet_of (unhide HB _)))
    go_wp2_with fail
    go_ret
    exact ⟨rfl, _, rfl⟩
  | true =>
    rcases List.eq_nil_or_concat s.G with hx | ⟨l, p, hx⟩
    · unfold PS.busy at hbz; rw [hx] at hbz; cases hbz
    · rw [List.concat_eq_append] at hx
      have hC : s.carries = (p.flow != -1) := by unfold PS.carries; rw [hbz, hx]; simp
      rw [hx] at hb
      obtain ⟨g, c, hv, hg, d0, d5⟩ := gone_last hb
      rw [hv] at c6
      rw [hbz] at HB
      rw [hC]
      have hl : (l.length : Int) ≤ 1000000000 := by rw [hx] at hG; simp at hG; omega
      clear h hx hC hb hv hG d5 hbz
      generalize s.Q = Q at *
      generalize l.length = n at *
      have hs : wrap64 (((n + 1 : Nat) : Int) - 1) = (n : Int) := by rw [show ((n + 1 : Nat) : Int) - 1 = (n : Int) by omega]; go_arith
      go_enter Tryz.func117, Tryz.ntmps117
      go_wp2_with fail
      go_quiet (first | (go_at_call 88; refine Calls.quiet_of (unhide HB _)))
      go_wp2_with fail
      go_ret
      exact ⟨rfl, _, rfl⟩
/-- The flow of a number, if one lives that has it. -/
def PS.live (s : PS) (k : Int) : Option FS := if 0 ≤ k then (s.fs k.toNat).bind fun f => if f.torn then none else some f else none
set_option maxRecDepth 100000 in
set_option maxHeartbeats 2000000 in
theorem plive_some (w : World) (P : Nat) (s : PS) (h : PM w P s) (k : Nat) (hk1 : (k : Int) ≤ 9223372036854775807) (f : FS) (hf : s.fs k = some f) (ht : f.torn = false) :
    Calls Tryz.prog 63 #[.pointer (some ⟨s.Q, 0, none⟩), .int .i64 (k : Int)] w fun e w' => e = .returned (.tuple #[.pointer (some ⟨f.a, 0, none⟩), .nilIface]) ∧ w' = w := by
  have hl := h.map.look true (k := (k : Int)) (by omega) hk1
  have hm : mAt (adrs s.fs) (k : Int) = some f.a := by unfold mAt adrs; rw [if_pos (by omega), Int.toNat_natCast, hf]; rfl
  rw [hm] at hl
  have hl2 : (Instr.lookup 111 (.map (some s.M)) (.int .i64 (k : Int)) true).run Tryz.prog w = .ok (.tuple #[.pointer (some ⟨f.a, 0, none⟩), .bool true]) w := hl
  have c1 := h.c1
  have c15 := (h.fl k f hf).c15
  rw [ht] at c15
  clear h hf hm hl ht
  generalize s.Q = Q at *
  generalize s.M = M at *
  go_enter Tryz.func63, Tryz.ntmps63
  go_wp2_with fail
  go_ret2
  exact ⟨rfl, rfl⟩
set_option maxRecDepth 100000 in
set_option maxHeartbeats 2000000 in
theorem plive_torn (w : World) (P : Nat) (s : PS) (h : PM w P s) (k : Nat) (hk1 : (k : Int) ≤ 9223372036854775807) (f : FS) (hf : s.fs k = some f) (ht : f.torn = true) (T : TypeId) (v : Value) (hE : w.cell? ⟨3, 0, none⟩ = some (.iface T v)) :
    Calls Tryz.prog 63 #[.pointer (some ⟨s.Q, 0, none⟩), .int .i64 (k : Int)] w fun e w' => e = .returned (.tuple #[.pointer none, .iface T v]) ∧ Below w.heap.size w w' := by
  have hl := h.map.look true (k := (k : Int)) (by omega) hk1
  have hm : mAt (adrs s.fs) (k : Int) = some f.a := by unfold mAt adrs; rw [if_pos (by omega), Int.toNat_natCast, hf]; rfl
  rw [hm] at hl
  have hl2 : (Instr.lookup 111 (.map (some s.M)) (.int .i64 (k : Int)) true).run Tryz.prog w = .ok (.tuple #[.pointer (some ⟨f.a, 0, none⟩), .bool true]) w := hl
  have c1 := h.c1
  have c15 := (h.fl k f hf).c15
  rw [ht] at c15
  clear h hf hm hl ht
  generalize s.Q = Q at *
  generalize s.M = M at *
  go_enter Tryz.func63, Tryz.ntmps63
  go_wp2_with fail
  go_quiet (fail)
  go_wp2_with fail
  go_ret2
  exact ⟨rfl, drewN_bel (Below.refl _ _) _⟩
set_option maxRecDepth 100000 in
set_option maxHeartbeats 2000000 in
theorem plive_none (w : World) (P : Nat) (s : PS) (h : PM w P s) (k : Int) (hk0 : -9223372036854775808 ≤ k) (hk1 : k ≤ 9223372036854775807) (hf : mAt (adrs s.fs) k = none) (T : TypeId) (v : Value) (hE : w.cell? ⟨3, 0, none⟩ = some (.iface T v)) :
    Calls Tryz.prog 63 #[.pointer (some ⟨s.Q, 0, none⟩), .int .i64 k] w fun e w' => e = .returned (.tuple #[.pointer none, .iface T v]) ∧ Below w.heap.size w w' := by
  have hl := h.map.look true (k := k) hk0 hk1
  rw [hf] at hl
  have hl2 : (Instr.lookup 111 (.map (some s.M)) (.int .i64 k) true).run Tryz.prog w = .ok (.tuple #[.pointer none, .bool false]) w := hl
  have c1 := h.c1
  clear h hf hl
  generalize s.Q = Q at *
  generalize s.M = M at *
  go_enter Tryz.func63, Tryz.ntmps63
  go_wp2_with fail
  go_quiet (fail)
  go_wp2_with fail
  go_ret2
  exact ⟨rfl, drewN_bel (Below.refl _ _) _⟩
end Go.Proofs.YtcnmajndackohaaGreatDoor
/-
  What the program's next does: the packet that is to begin is taken out of those that wait.
-/
namespace Go.Proofs.YtcnmajndackohaaGreatDoor
open Go.RowKit

theorem res_cell2 {P : Program} {fn : Func} {p u : Tmp} {ty : TypeId} (h : fn.results = #[.cell p ty, .tmp u]) (tmps : Array Value) (w : World) (g : Nat) (t : TypeId) (cs : Array Value) (fr : Nat × Nat) (d : TypeDesc) (v : Value)
    (hp : tmps.getD p undef = .pointer (some ⟨g, 0, none⟩)) (hv : tmps.getD u undef = v) (hg : w.heap[g]? = some (.cells cs t fr)) (hu : P.underlying ty = some d) (hd : (match d with | .struct _ | .array _ _ => true | _ => false) = true) (hi : (P.info? ty).map (·.size) = some cs.size) :
    (results fn tmps).run P w = .ok (.tuple #[.agg cs, v]) w := by
  rw [results_cell_tmp h, hp, hv]
  simp [asAddr, Result.andThen, run_loadVar_row w g t ty cs fr d hg hu hd hi]
theorem infoPacket : (Tryz.prog.info? 118).map (·.size) = some 4 := by kernel_rfl
abbrev pzero : Array Value := #[.int .i64 0, .int .i64 0, .int .i64 0, .int .i64 0]
theorem PN.rdLen {w : World} {P : Nat} {s : PS} (h : PN w P s) : ∃ a c, s.vr = .slice a s.H.length c := by
  rcases h.rd.2 with ⟨e1, e2⟩ | ⟨g, cap, cur, e1, _⟩
  · exact ⟨none, 0, by rw [e1, e2]⟩
  · exact ⟨_, _, e1⟩
theorem PN.otLen {w : World} {P : Nat} {s : PS} (h : PN w P s) : ∃ a c, s.vo = .slice a s.O.length c := by
  rcases h.ot.1.2 with ⟨e1, e2⟩ | ⟨g, off, cap, cur, e1, _⟩
  · exact ⟨none, 0, by rw [e1, e2]⟩
  · exact ⟨_, _, e1⟩
set_option maxRecDepth 100000 in
set_option maxHeartbeats 2000000 in
/-- Nothing waits that may begin. -/
theorem pnext_none (w : World) (P : Nat) (s : PS) (h : PM w P s) (hH : s.H = []) (hO : s.O = []) :
    Calls Tryz.prog 118 #[.pointer (some ⟨s.Q, 0, none⟩)] w fun e w' => e = .returned (.tuple #[.agg pzero, .bool false]) ∧ Below w.heap.size w w' := by
  obtain ⟨ar, cr, hr⟩ := h.rdLen
  obtain ⟨ao, co, ho⟩ := h.otLen
  rw [hH] at hr
  rw [hO] at ho
  have c3 := h.c3
  have c4 := h.c4
  have hQ := h.inn.lt
  rw [hr] at c3
  rw [ho] at c4
  have c3A := (World.cell?_alloc_past (w := w) (.cells pzero 118) s.Q 3 hQ).trans c3
  have c4A := (World.cell?_alloc_past (w := w) (.cells pzero 118) s.Q 4 hQ).trans c4
  clear h hH hO hr ho c3 c4
  generalize s.Q = Q at *
  go_enter Tryz.func118, Tryz.ntmps118
  go_wp2_with fail
  refine bodyPost_ret (res_cell2 rfl _ _ w.heap.size 118 pzero (0, 0) _ (.bool false) rfl rfl (heap_alloc_new w _) Tryz.underlying118 rfl infoPacket) rfl ?_
  exact ⟨rfl, bel_one _⟩
/-- How a call ends that changes the line. -/
structure PTo (w : World) (P : Nat) (s : PS) (w' : World) (s' : PS) : Prop where
  pm : PM w' P s'
  ho : Only (fun i => s.o i ≠ 0) w w'
  oo : ∀ i, i < w.heap.size → s'.o i = s.o i
  q : s'.Q = s.Q
theorem PTo.refl {w : World} {P : Nat} {s : PS} (h : PM w P s) : PTo w P s w s := ⟨h, Only.refl _ _, fun _ _ => rfl, rfl⟩
theorem PTo.trans {a b c : World} {P : Nat} {s t u : PS} (h : PTo a P s b t) (k : PTo b P t c u) : PTo a P s c u :=
  ⟨k.pm, h.ho.trans k.ho (fun i hi hn => by rw [h.oo i hi] at hn; exact hn), fun i hi => (k.oo i (Nat.lt_of_lt_of_le hi h.ho.size)).trans (h.oo i hi), k.q.trans h.q⟩
theorem PTo.below {a b c : World} {P : Nat} {s t : PS} (h : PTo a P s b t) (k : Below b.heap.size b c) : PTo a P s c t :=
  ⟨h.pm.below k, h.ho.trans (T := fun _ => False) (Only.of_below k) (fun _ _ g => g.elim), h.oo, h.q⟩
theorem PTo.keepNew {a b c : World} {P : Nat} {s t : PS} {S : Nat → Prop} (h : PTo a P s b t) (k : Only S b c) (hs : ∀ i, S i → t.o i = 0 ∧ a.heap.size ≤ i) : PTo a P s c t :=
  ⟨h.pm.keep k (fun i hi => (hs i hi).1), h.ho.trans k (fun i hi hS => absurd (hs i hS).2 (by omega)), h.oo, h.q⟩
/-- Into the line's own block. -/
theorem PM.setQ {w : World} {P : Nat} {s s' : PS} (h : PM w P s) (j : Nat) (v : Value) (hQ : s'.Q = s.Q) (hM : s'.M = s.M) (hfs : s'.fs = s.fs) (ho : s'.o = s.o) (hc : s.cs.setIfInBounds j v = s'.cs)
    (rd : QV w s'.vr s'.H) (ord : ∀ g, s'.vr.ownBlock = some g → s.o g = 4) (ot : Ow w s.o 5 118 4 s'.vo s'.O.length (hcells s'.O)) (be : Rw w s.o 6 63 6 s'.vb s'.G.length (gcells s'.G)) (hp : HeapN s'.H s'.H.length) : PTo w P s (w.setCell ⟨s.Q, j, none⟩ v) s' := by
  have hO : Only (fun i => i = s.Q) w (w.setCell ⟨s.Q, j, none⟩ v) := only_set w s.Q j v
  have hq : ∀ i, i = s.Q → s.o i = 2 := fun i e => by rw [e]; exact h.oQ
  have hI := h.inn.set j v
  rw [hc] at hI
  refine ⟨h.ownTo (c := 2) (.inl rfl) (hO.mono fun i _ e => .inl (hq i e)) (fun i _ => by rw [ho]) ?_ hQ hM hfs hI ?_ (by rw [ho]; exact ord) ?_ ?_ hp, hO.mono fun i _ e => by rw [hq i e]; decide, fun i _ => by rw [ho], hQ⟩
  · rw [ho]; exact fun i hi => h.free i (Nat.le_trans hO.size hi)
  · exact rd.keep ord hO (fun i e => by rw [hq i e]; decide)
  · rw [ho]; exact ot.keep hO (fun i e => by rw [hq i e]; decide) (fun _ _ => rfl)
  · rw [ho]; exact be.keep hO (fun i e => by rw [hq i e]; decide) (fun _ _ => rfl)
/-- What a slice's tail is: where there is room for no more its address stays. -/
def tlV (g off size n cap : Nat) : Value := if cap = 1 then .slice (some ⟨g, off, none⟩) n 0 else .slice (some ⟨g, off + size, none⟩) n (cap - 1)
theorem tail_form {w : World} {t : TypeId} {size g off n cap : Nat} {hd tl : List Value} (h : World.offRow w t size (.slice (some ⟨g, off, none⟩) (n + 1) cap) (n + 1) (hd ++ tl)) (hl : hd.length = size) :
    ∃ vt, Hid (vt = tlV g off size n cap) ∧ World.offRow w t size vt n tl ∧ ∀ g', vt.ownBlock = some g' → g' = g := by
  refine ⟨tlV g off size n cap, hide rfl, ?_, fun g' hg' => ?_⟩
  · unfold tlV
    by_cases hc : cap = 1
    · rw [if_pos hc]
      subst hc
      have hn : n = 0 := by
        rcases h.2 with ⟨e1, _⟩ | ⟨g', off', cap', cur, e1, e2, h2, _⟩
        · cases e1
        · simp only [Value.slice.injEq] at e1
          omega
      subst hn
      have h1 := h.1
      rw [List.length_append, hl] at h1
      have : tl = [] := List.eq_nil_of_length_eq_zero (by omega)
      subst this
      exact offRow_last h
    · rw [if_neg hc]
      exact (offRow_tail h hl).1
  · unfold tlV at hg'
    split at hg' <;> exact (Option.some.inj hg').symm
theorem new_behind (w : World) (a : Addr) (v : Value) (ob : Obj) : ((w.setCell a v).alloc ob).heap[w.heap.size]? = some ob := by
  have e : (w.setCell a v).heap.size = w.heap.size := by simp
  have := heap_alloc_new (w.setCell a v) ob
  rwa [e] at this
theorem off_form {w : World} {t : TypeId} {size n : Nat} {v : Value} {xs : List Value} (h : World.offRow w t size v (n + 1) xs) : ∃ g off cap, v = .slice (some ⟨g, off, none⟩) (n + 1) cap ∧ g < w.heap.size ∧ n + 1 ≤ cap ∧ cap ≤ maxLen ∧ ∀ j u, xs[j]? = some u → w.cell? ⟨g, off + j, none⟩ = some u := by
  rcases h.2 with ⟨_, e⟩ | ⟨g, off, cap, cur, e1, e2, e3, e4, _⟩
  · omega
  · subst e1
    exact ⟨g, off, cap, rfl, lt_of_heap e2, e3, e4, fun j u hj => offRow_cell h hj⟩
set_option maxRecDepth 100000 in
set_option maxHeartbeats 2000000 in
/-- Of none the first. -/
theorem pnext_other (w : World) (P : Nat) (s : PS) (h : PM w P s) (hH : s.H = []) (p : Pk) (tl : List Pk) (hO : s.O = p :: tl) (hl : tl.length ≤ 1000000000) :
    Calls Tryz.prog 118 #[.pointer (some ⟨s.Q, 0, none⟩)] w fun e w' => e = .returned (.tuple #[.agg #[.int .i64 p.flow, .int .i64 p.seq, .int .i64 p.size, .int .i64 (toTick p.ready)], .bool true]) ∧ ∃ v', PTo w P s w' { s with O := tl, vo := v' } := by
  obtain ⟨ar, cr, hr⟩ := h.rdLen
  have hot := h.ot
  rw [hO] at hot
  obtain ⟨g, off, cap, hv, hg, hc1, hc2, hcell⟩ := off_form (n := tl.length) hot.1
  have hot1 := hot.1
  rw [hv] at hot1
  obtain ⟨vt, HVT, ht1, ht2⟩ : ∃ vt, Hid (vt = tlV g off 4 tl.length cap) ∧ World.offRow w 118 4 vt tl.length (hcells tl) ∧ ∀ g', vt.ownBlock = some g' → g' = g := tail_form (hd := hcs p) hot1 rfl
  have HTo := hide (show PTo w P s (w.setCell ⟨s.Q, 4, none⟩ vt) { s with O := tl, vo := vt } from
    h.setQ 4 _ rfl rfl rfl rfl rfl h.rd h.ord ⟨ht1, fun g' hg' => hot.2 g' (by rw [hv, ht2 g' hg']; rfl)⟩ h.be h.hp)
  rw [hH] at hr
  have c3 := h.c3
  have c4 := h.c4
  have hQ := h.inn.lt
  have z4 := h.inn.frozen 4
  rw [hr] at c3
  rw [hv] at c4
  have old : ∀ (b j : Nat), b < w.heap.size → ∀ ob, (w.alloc ob).cell? ⟨b, j, none⟩ = w.cell? ⟨b, j, none⟩ := fun b j hb ob => World.cell?_alloc_past ob b j hb
  have c3A := fun ob => ((old s.Q 3 hQ) ob).trans c3
  have c4A := fun ob => ((old s.Q 4 hQ) ob).trans c4
  have d0 := hcell 0 _ rfl
  have d1 := hcell 1 _ rfl
  have d2 := hcell 2 _ rfl
  have d3 := hcell 3 _ rfl
  rw [Nat.add_zero] at d0
  have e0 := fun ob => ((old g off hg) ob).trans d0
  have e1 := fun ob => ((old g (off + 1) hg) ob).trans d1
  have e2 := fun ob => ((old g (off + 2) hg) ob).trans d2
  have e3 := fun ob => ((old g (off + 3) hg) ob).trans d3
  have hcap : (tl.length : Int) + 1 ≤ (cap : Int) := by omega
  clear h hH hO hr hot hot1 hv c3 c4 old d0 d1 d2 d3 hcell hc1 ht1 ht2
  unfold maxLen at hc2
  generalize toTick p.ready = rdy at *
  by_cases hc : cap = 1
  · have htv : vt = .slice (some ⟨g, off, none⟩) tl.length 0 := by rw [unhide HVT, tlV, if_pos hc]
    subst htv
    subst hc
    go_enter Tryz.func118, Tryz.ntmps118
    go_wp2_with fail
    refine bodyPost_ret (res_cell2 rfl _ _ w.heap.size 118 #[.int .i64 p.flow, .int .i64 p.seq, .int .i64 p.size, .int .i64 rdy] (0, 0) _ (.bool true) rfl rfl (new_behind _ _ _ _) Tryz.underlying118 rfl infoPacket) rfl ?_
    exact ⟨rfl, _, (unhide HTo).below (bel_one _)⟩
  · have htv : vt = .slice (some ⟨g, off + 4, none⟩) tl.length (cap - 1) := by rw [unhide HVT, tlV, if_neg hc]
    subst htv
    go_enter Tryz.func118, Tryz.ntmps118
    go_wp2_with fail
    refine bodyPost_ret (res_cell2 rfl _ _ w.heap.size 118 #[.int .i64 p.flow, .int .i64 p.seq, .int .i64 p.size, .int .i64 rdy] (0, 0) _ (.bool true) rfl rfl (new_behind _ _ _ _) Tryz.underlying118 rfl infoPacket) rfl ?_
    exact ⟨rfl, _, (unhide HTo).below (bel_one _)⟩
end Go.Proofs.YtcnmajndackohaaGreatDoor
/-
  What the program's next does where a packet of a flow is ready.
-/
namespace Go.Proofs.YtcnmajndackohaaGreatDoor
open Go.RowKit

theorem FS.set13 (f : FS) (v : Int) : f.cs.setIfInBounds 13 (.int .i64 v) = { f with wa := v }.cs := rfl
/-- How many of a flow have not begun, written. -/
theorem PM.setWa {w : World} {P : Nat} {s : PS} (h : PM w P s) {k : Nat} {f : FS} (hf : s.fs k = some f) (v : Int) : PTo w P s (w.setCell ⟨f.a, 13, none⟩ (.int .i64 v)) { s with fs := upd s.fs k { f with wa := v } } := by
  have hfm := h.fl k f hf
  have hO : Only (fun i => i = f.a) w (w.setCell ⟨f.a, 13, none⟩ (.int .i64 v)) := only_set w f.a 13 _
  have hq : ∀ i, i = f.a → s.o i = 7 + 2 * k := fun i e => by rw [e]; exact hfm.ob
  have hI := hfm.blk.set 13 (.int .i64 v)
  rw [FS.set13] at hI
  refine ⟨h.flowTo hf (hO.mono fun i _ e => .inl (hq i e)) (fun _ _ => rfl) (fun i hi => h.free i (Nat.le_trans hO.size hi)) ⟨hI, hfm.ob, ?_⟩ rfl, hO.mono fun i _ e => by rw [hq i e]; omega, fun _ _ => rfl, rfl⟩
  exact hfm.hl.keep hO (fun i e => by rw [hq i e]; omega) (fun _ _ => rfl)
/-- The queue behind container/heap's call. -/
theorem PM.queue {w w' : World} {P : Nat} {s : PS} (h : PM w P s) {v' : Value} {H' : List En} (hI : Is w' s.Q 116 (s.cs.setIfInBounds 3 v')) (hq : QV w' v' H') (hh : HeapN H' H'.length) (hv : ∀ g, v'.ownBlock = some g → s.vr.ownBlock = some g ∨ w.heap.size ≤ g)
    (ho : Only (fun k => k = s.Q ∨ s.vr.ownBlock = some k) w w') : PTo w P s w' { s with vr := v', H := H', o := s.o.give w.heap.size w'.heap.size 4 } := by
  have hS : ∀ i, (i = s.Q ∨ s.vr.ownBlock = some i) → s.o i = 2 ∨ s.o i = 4 := fun i e => by
    rcases e with e | e
    · left; rw [e]; exact h.oQ
    · right; exact h.ord i e
  have hg : ∀ i, i < w.heap.size → (s.o.give w.heap.size w'.heap.size 4) i = s.o i := fun i hi => give_old hi
  refine ⟨h.ownTo (c := 4) (.inr (.inl rfl)) (ho.mono fun i _ e => hS i e) hg (give_free h.free ho.size) rfl rfl rfl hI hq (fun g hg' => ?_) ?_ ?_ hh, ho.mono fun i _ e => by have := hS i e; omega, hg, rfl⟩
  · rcases hv g hg' with e | e
    · exact (hg g (h.rd.lt g e)).trans (h.ord g e)
    · exact give_new e (hq.lt g hg')
  · exact h.ot.keep ho (fun i e => by have := hS i e; omega) hg
  · exact h.be.keep ho (fun i e => by have := hS i e; omega) hg
theorem Is.store4 {w : World} {g : Nat} {z0 z1 z2 z3 : Value} (h : Is w g 118 #[z0, z1, z2, z3]) (a b c d : Value) : Is ((((w.setCell ⟨g, 0, none⟩ a).setCell ⟨g, 1, none⟩ b).setCell ⟨g, 2, none⟩ c).setCell ⟨g, 3, none⟩ d) g 118 #[a, b, c, d] :=
  (((h.set 0 a).set 1 b).set 2 c).set 3 d
theorem only4 {w : World} {g : Nat} (a b c d : Value) : Only (fun i => i = g) w ((((w.setCell ⟨g, 0, none⟩ a).setCell ⟨g, 1, none⟩ b).setCell ⟨g, 2, none⟩ c).setCell ⟨g, 3, none⟩ d) :=
  ((((Only.refl (fun i => i = g) w).setCell (.inl rfl)).setCell (.inl rfl)).setCell (.inl rfl)).setCell (.inl rfl)
theorem field_pk (a b c d e : Int) (w : World) : (Instr.field 194 (.agg #[.int .i64 a, .int .i64 b, .int .i64 c, .int .i64 d, .int .i64 e]) 0).run Tryz.prog w = .ok (.agg #[.int .i64 a, .int .i64 b, .int .i64 c, .int .i64 d]) w := by kernel_rfl
set_option maxRecDepth 100000 in
set_option maxHeartbeats 2000000 in
/-- The one on top of the queue. -/
theorem pnext_flow (w : World) (P : Nat) (s : PS) (h : PM w P s) (hH : 0 < s.H.length) (hl : s.H.length ≤ 4000000) (hfl : ∀ e ∈ s.H, ∃ (k : Nat) (f : FS), e.flow = (k : Int) ∧ s.fs k = some f) (hwa : ∀ k f, s.fs k = some f → -1000000000 ≤ f.wa ∧ f.wa ≤ 1000000000) (hk1 : ∀ k f, s.fs k = some f → (k : Int) ≤ 9223372036854775807) :
    Calls Tryz.prog 118 #[.pointer (some ⟨s.Q, 0, none⟩)] w fun e w' => ∃ (x : En) (H' : List En) (v' : Value) (o' : Whose) (k : Nat) (f : FS), e = .returned (.tuple #[.agg #[.int .i64 x.flow, .int .i64 x.seq, .int .i64 x.size, .int .i64 x.ready], .bool true]) ∧
      s.H.Perm (x :: H') ∧ (∀ y ∈ s.H, x.le y) ∧ x.flow = (k : Int) ∧ s.fs k = some f ∧ PTo w P s w' { s with H := H', vr := v', o := o', fs := upd s.fs k { f with wa := f.wa - 1 } } := by
  obtain ⟨ar, cr, hr⟩ := h.rdLen
  have c3 := h.c3
  have hQ := h.inn.lt
  rw [hr] at c3
  have c3A := fun ob => (World.cell?_alloc_past (w := w) ob s.Q 3 hQ).trans c3
  have HA := hide (h.below (bel_one (.cells pzero 118)))
  have HNew := hide (Is.new w 118 pzero)
  have HPop := hide (hpop_any s.Q 3 s.H (w.alloc (.cells pzero 118)) 116 s.cs s.vr (unhide HA).inn rfl (unhide HA).rd h.hp (fun e => by have := h.ord _ e; rw [h.oQ] at this; cases this) hH hl)
  have HH := hide h
  have HFl := hide hfl
  have HWa := hide hwa
  have HK1 := hide hk1
  have hHi : (0 : Int) < (s.H.length : Int) := by omega
  clear h c3 hr hfl hwa hk1 hH
  unfold qif at HPop
  go_enter Tryz.func118, Tryz.ntmps118
  go_wp2_with fail
  refine (unhide HPop).mono ?_
  rintro e w1 ⟨x, v', H', rfl, hI1, hQ1, hH1, hP1, hle, hv1, ho1⟩
  have hT1 := ((PTo.refl (unhide HH)).below (bel_one _)).trans <| (unhide HA).queue hI1 hQ1 hH1 (fun g hg => .inl (by rw [← hv1]; exact hg)) ho1
  have hN1 : Is w1 w.heap.size 118 pzero := (unhide HNew).only ho1 (fun e => by
    rcases e with e | e
    · omega
    · have := (unhide HH).rd.lt _ e; omega)
  have HT1 := hide hT1
  have HN1 := hide hN1
  have HP1 := hide hP1
  have HLe := hide hle
  clear hI1 hQ1 hH1 hP1 hle hv1 ho1 hT1 HPop HNew
  have z0 := hN1.frozen 0
  have z1 := hN1.frozen 1
  have z2 := hN1.frozen 2
  have z3 := hN1.frozen 3
  have tA := ta_entry (.agg (ecs x)) 20 w1
  unfold ecs at tA ⊢
  have y0 := hN1.cell (j := 0) rfl
  have y1 := hN1.cell (j := 1) rfl
  have y2 := hN1.cell (j := 2) rfl
  have y3 := hN1.cell (j := 3) rfl
  have fA := field_pk x.flow x.seq x.size x.ready x.dl w1
  clear hN1
  go_wp2_with fail
  have HS := hide ((unhide HN1).store4 (.int .i64 x.flow) (.int .i64 x.seq) (.int .i64 x.size) (.int .i64 x.ready))
  have HOS := hide (only4 (w := w1) (g := w.heap.size) (.int .i64 x.flow) (.int .i64 x.seq) (.int .i64 x.size) (.int .i64 x.ready))
  generalize ((((w1.setCell ⟨w.heap.size, 0, none⟩ (.int .i64 x.flow)).setCell ⟨w.heap.size, 1, none⟩ (.int .i64 x.seq)).setCell ⟨w.heap.size, 2, none⟩ (.int .i64 x.size)).setCell ⟨w.heap.size, 3, none⟩ (.int .i64 x.ready)) = w2 at *
  obtain ⟨k, f, hxk, hfk⟩ := unhide HFl x ((unhide HP1).mem_iff.2 (List.mem_cons_self ..))
  have hT2 := (unhide HT1).keepNew (unhide HOS) (fun i e => by
    subst e
    exact ⟨(give_old (by show w.heap.size < (w.alloc _).heap.size; simp)).trans ((unhide HH).free _ (Nat.le_refl _)), Nat.le_refl _⟩)
  have hfm := hT2.pm.fl k f hfk
  have c1 := hT2.pm.c1
  have lk := (hT2.pm.map.of_block (w' := w2.drew) rfl).look false (k := (k : Int)) (by omega) (unhide HK1 k f hfk)
  rw [show mAt (adrs s.fs) (k : Int) = some f.a from by unfold mAt adrs; rw [if_pos (by omega), Int.toNat_natCast, hfk]; rfl] at lk
  have lk2 : (Instr.lookup 111 (.map (some s.M)) (.int .i64 (k : Int)) false).run Tryz.prog w2.drew = .ok (.pointer (some ⟨f.a, 0, none⟩)) w2.drew := lk
  have c13 := hfm.c13
  have z13 := hfm.blk.frozen 13
  obtain ⟨b0, b1⟩ := unhide HWa k f hfk
  have p0 : w2.cell? ⟨w.heap.size, 0, none⟩ = some (.int .i64 x.flow) := (unhide HS).cell (j := 0) rfl
  have HEnd := hide (hT2.trans (hT2.pm.setWa hfk (f.wa - 1)))
  have hne : f.a ≠ w.heap.size := by
    intro e
    have h1 := ((unhide HH).fl k f hfk).blk.lt
    omega
  have HIs := hide (show Is (w2.setCell ⟨f.a, 13, none⟩ (.int .i64 (f.wa - 1))) w.heap.size 118 #[.int .i64 (k : Int), .int .i64 x.seq, .int .i64 x.size, .int .i64 x.ready] from by rw [← hxk]; exact (unhide HS).far hne.symm)
  rw [hxk] at p0
  have HXK := hide hxk
  have HFK := hide hfk
  clear lk hfm hT2 hxk hfk HS HOS HT1 HN1 HA
  go_wp2_with fail
  go_region
  all_goals
    generalize (w2.setCell ⟨f.a, 13, none⟩ (.int .i64 (f.wa - 1))) = w3 at *
    have r0 : w3.cell? ⟨w.heap.size, 0, none⟩ = some (.int .i64 (k : Int)) := (unhide HIs).cell (j := 0) rfl
    have r1 : w3.cell? ⟨w.heap.size, 1, none⟩ = some (.int .i64 x.seq) := (unhide HIs).cell (j := 1) rfl
    have r2 : w3.cell? ⟨w.heap.size, 2, none⟩ = some (.int .i64 x.size) := (unhide HIs).cell (j := 2) rfl
    have r3 : w3.cell? ⟨w.heap.size, 3, none⟩ = some (.int .i64 x.ready) := (unhide HIs).cell (j := 3) rfl
    have q0 := (unhide HIs).frozen 0
    have q1 := (unhide HIs).frozen 1
    have q2 := (unhide HIs).frozen 2
    have q3 := (unhide HIs).frozen 3
    have HS3 := hide ((unhide HIs).store4 (.int .i64 (k : Int)) (.int .i64 x.seq) (.int .i64 x.size) (.int .i64 x.ready))
    have HT3 := hide ((unhide HEnd).keepNew (only4 (w := w3) (g := w.heap.size) (.int .i64 (k : Int)) (.int .i64 x.seq) (.int .i64 x.size) (.int .i64 x.ready)) (fun i e => by
      subst e
      exact ⟨(give_old (by show w.heap.size < (w.alloc _).heap.size; simp)).trans ((unhide HH).free _ (Nat.le_refl _)), Nat.le_refl _⟩))
    clear c1 lk2 c13 z13 p0 HIs HEnd b0 b1
    go_wp2_with fail
    refine bodyPost_ret (res_cell2 rfl _ _ w.heap.size 118 #[.int .i64 (k : Int), .int .i64 x.seq, .int .i64 x.size, .int .i64 x.ready] (0, 0) _ (.bool true) rfl rfl (unhide HS3) Tryz.underlying118 rfl infoPacket) rfl ?_
    exact ⟨x, H', v', _, k, f, by rw [unhide HXK], unhide HP1, unhide HLe, unhide HXK, unhide HFK, (unhide HT3).below (Below.refl _ _).drew⟩
end Go.Proofs.YtcnmajndackohaaGreatDoor
