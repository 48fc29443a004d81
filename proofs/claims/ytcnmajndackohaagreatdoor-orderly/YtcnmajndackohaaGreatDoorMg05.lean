import Derived.Test.YtcnmajndackohaaGreatDoorMg04
import Derived.Test.YtcnmajndackohaaGreatDoorMg02
import Derived.Deep.Slices
import Derived.LaidHandle
import Derived.LaidSub
import Derived.Test.YtcnmajndackohaaGreatDoorMg03
/-
  What In, violation, errno and Test do on flows that may be.
-/
namespace Go.Proofs.YtcnmajndackohaaGreatDoor
open Go.RowKit

/-- What the package's variables hold. -/
structure Gl (w : World) (a0 a1 : Addr) : Prop where
  e0 : w.cell? ⟨0, 0, none⟩ = some (.iface 242 (.pointer (some a0)))
  e1 : w.cell? ⟨2, 0, none⟩ = some (.iface 242 (.pointer (some a1)))
  et : w.cell? ⟨6, 0, none⟩ = some (.iface 167 (.agg #[.pointer (some ⟨10, 66, none⟩)]))
  h0 : ∃ c t, w.heap[a0.block]? = some (.cells c t (0, 0))
  h1 : ∃ c t, w.heap[a1.block]? = some (.cells c t (0, 0))
  ne : a1 ≠ a0
  st : Sts w
  sn : ∃ a, Snt w a
theorem Gl.below {w w' : World} {a0 a1 : Addr} (h : Gl w a0 a1) (hb : Below w.heap.size w w') : Gl w' a0 a1 := by
  obtain ⟨c0, t0, k0⟩ := h.h0
  obtain ⟨c1, t1, k1⟩ := h.h1
  exact ⟨(hb.cell (World.block_lt_of_cell? _ _ h.e0)).trans h.e0, (hb.cell (World.block_lt_of_cell? _ _ h.e1)).trans h.e1, (hb.cell (World.block_lt_of_cell? _ _ h.et)).trans h.et,
    ⟨c0, t0, (hb.block _ (lt_of_heap k0)).trans k0⟩, ⟨c1, t1, (hb.block _ (lt_of_heap k1)).trans k1⟩, h.ne, h.st.below hb, let ⟨a, ha⟩ := h.sn; ⟨a, ha.below hb⟩⟩

set_option maxHeartbeats 400000 in
theorem in_none (s : ByteArray) (w : World) :
    Calls Tryz.prog 46 #[.string s, .nilIface] w fun e w' => e = .returned .nilIface ∧ w' = w := by
  go_enter Tryz.func46, Tryz.ntmps46
  go_wp2
  go_ret
  exact ⟨rfl, rfl⟩
set_option maxHeartbeats 400000 in
theorem in_some (s : ByteArray) (T : TypeId) (v : Value) (w : World) :
    Calls Tryz.prog 46 #[.string s, .iface T v] w fun e w' => e = .returned (plc s (.iface T v)) ∧ w' = w := by
  go_enter Tryz.func46, Tryz.ntmps46
  go_wp2
  go_ret
  exact ⟨rfl, rfl⟩

set_option maxHeartbeats 1000000 in
theorem violation_none (w : World) :
    Calls Tryz.prog 27 #[.nilIface] w fun e w' => e = .returned (.int .i64 0) ∧ Below w.heap.size w w' := by
  go_enter Tryz.func27, Tryz.ntmps27
  go_wp2_with fail
  refine (as_none _ _).mono ?_
  rintro e w1 ⟨rfl, rfl⟩
  go_wp2_with fail
  go_ret
  exact ⟨rfl, bel_one _⟩
set_option maxHeartbeats 1000000 in
theorem violation_some (s : ByteArray) (t : Int) (a0 a1 : Addr) (w : World) (hg : Gl w a0 a1) :
    Calls Tryz.prog 27 #[plc s (vio t)] w fun e w' => e = .returned (.int .i64 t) ∧ Below w.heap.size w w' := by
  have HG := hide hg
  clear hg
  generalize hE : plc s (vio t) = E
  have HE := hide hE
  clear hE
  go_enter Tryz.func27, Tryz.ntmps27
  go_wp2_with fail
  rw [← unhide HE]
  refine (as_vio s t w.heap.size (.int .i64 0) _ ((unhide HG).below (bel_one _)).et (World.cell?_alloc_new _ _ _ 0) ?_ w.heap.size (Nat.le_refl _)).mono ?_
  · simp [go_sem]
  rintro e w1 ⟨rfl, hb, hc⟩
  have HB := hide hb
  clear hb
  go_wp2_with fail
  go_ret
  exact ⟨rfl, ((Below.refl _ _).alloc (Nat.le_refl _) _).trans (unhide HB)⟩

set_option maxHeartbeats 1000000 in
theorem errno_late (s : ByteArray) (t : Int) (a0 a1 : Addr) (w : World) (hg : Gl w a0 a1) :
    Calls Tryz.prog 28 #[plc s (vio t)] w fun e w' => e = .returned (.int .i64 3) ∧ Below w.heap.size w w' := by
  have g0 := hg.e0
  have HG := hide hg
  clear hg
  generalize hE : plc s (vio t) = E
  have HE := hide hE
  clear hE
  go_enter Tryz.func28, Tryz.ntmps28
  go_wp2_with fail
  rw [← unhide HE]
  obtain ⟨c0, t0, k0⟩ := (unhide HG).h0
  obtain ⟨c1, t1, k1⟩ := (unhide HG).h1
  refine (is_notarg s t a0 a1 c0 c1 t0 t1 _ (unhide HG).e1 (unhide HG).ne k0 k1).mono ?_
  rintro e w1 ⟨rfl, hb⟩
  have hG1 := (unhide HG).below hb
  have g1 := hG1.e1
  have HG1 := hide hG1
  have HB := hide hb
  obtain ⟨a, hsn⟩ := hG1.sn
  have g2 := hsn.c 1 (by decide)
  have ha1 : a 2 = a1 := by
    have := (hsn.c 2 (by decide)).symm.trans hG1.e1
    simpa using this
  have hne2 : a1 ≠ a 1 := by rw [← ha1]; exact hsn.ne _ (by decide) _ (by decide) (by decide)
  obtain ⟨cf, tf, kf⟩ := hsn.h 1 (by decide)
  obtain ⟨c2, t2, k2⟩ := hG1.h1
  have HN := hide hne2
  have HKf := hide kf
  have HK1 := hide k2
  clear hb hG1 k0 k1 g0 hsn ha1 hne2 kf k2
  generalize a 1 = af at *
  rw [unhide HE]
  go_wp2_with fail
  rw [← unhide HE]
  refine (is_notarg s t af a1 cf c2 tf t2 _ (unhide HG1).e1 (unhide HN) (unhide HKf) (unhide HK1)).mono ?_
  rintro e w3 ⟨rfl, hb3⟩
  have hG3 := (unhide HG1).below hb3
  have g3 := hG3.e1
  have HG3 := hide hG3
  have HB3 := hide (bel_then (unhide HB) hb3)
  clear hb3 hG3 g1 g2 HKf HK1 HG1
  rw [unhide HE]
  go_wp2_with fail
  rw [← unhide HE]
  refine (is_late s t a1 _ (unhide HG3).e1).mono ?_
  rintro e w2 ⟨rfl, hb2⟩
  have HB2 := hide hb2
  clear hb2
  go_wp2_with fail
  go_ret
  exact ⟨rfl, bel_then (unhide HB3) (unhide HB2)⟩

set_option maxHeartbeats 1000000 in
theorem ftest_none (v : Value) (l : List Fl) (w : World) (hw : Fls w v l) (hl : l.length ≤ 6) (hm : ∀ f ∈ l, f.may) (hv : viol l = 0) :
    Calls Tryz.prog 26 #[v] w fun e w' => e = .returned .nilIface ∧ Below w.heap.size w w' := by
  have HW := hide hw
  have HL := hide hl
  have HM := hide hm
  have HV := hide hv
  clear hw hl hm hv
  go_enter Tryz.func26, Tryz.ntmps26
  go_wp2_with fail
  refine (checkAll_F v l _ (unhide HW) (unhide HL) (unhide HM)).mono ?_
  rintro e w1 ⟨rfl, hb⟩
  have HB := hide hb
  clear hb
  go_wp2_with fail
  refine (fit_any v l _ ((unhide HW).below (unhide HB)) (unhide HL) (unhide HM)).mono ?_
  rintro e w2 ⟨rfl, hb2⟩
  have HB2 := hide hb2
  clear hb2
  rw [fitV_none (unhide HV)]
  go_wp2_with fail
  refine (in_none _ _).mono ?_
  rintro e w3 ⟨rfl, rfl⟩
  go_wp2_with fail
  go_ret
  exact ⟨rfl, bel_then (unhide HB) (unhide HB2)⟩

set_option maxHeartbeats 1000000 in
theorem ftest_some (v : Value) (l : List Fl) (w : World) (hw : Fls w v l) (hl : l.length ≤ 6) (hm : ∀ f ∈ l, f.may) (hv : ¬ viol l = 0) :
    Calls Tryz.prog 26 #[v] w fun e w' => (∃ s, e = .returned (plc s (vio (viol l)))) ∧ Below w.heap.size w w' := by
  have HW := hide hw
  have HL := hide hl
  have HM := hide hm
  have HV := hide hv
  clear hw hl hm hv
  go_enter Tryz.func26, Tryz.ntmps26
  go_wp2_with fail
  refine (checkAll_F v l _ (unhide HW) (unhide HL) (unhide HM)).mono ?_
  rintro e w1 ⟨rfl, hb⟩
  have HB := hide hb
  clear hb
  go_wp2_with fail
  refine (fit_any v l _ ((unhide HW).below (unhide HB)) (unhide HL) (unhide HM)).mono ?_
  rintro e w2 ⟨rfl, hb2⟩
  have HB2 := hide hb2
  clear hb2
  rw [fitV_some (unhide HV)]
  unfold vio
  go_wp2_with fail
  refine (in_some _ _ _ _).mono ?_
  rintro e w3 ⟨rfl, rfl⟩
  go_wp2_with fail
  go_ret
  exact ⟨⟨_, rfl⟩, bel_then (unhide HB) (unhide HB2)⟩

/-- The number of what Test answers. -/
def tno (l : List Fl) : Int := if viol l = 0 then 0 else 3
set_option maxHeartbeats 1000000 in
theorem test_any (v : Value) (l : List Fl) (a0 a1 : Addr) (w : World) (hg : Gl w a0 a1) (hw : Fls w v l) (hl : l.length ≤ 6) (hm : ∀ f ∈ l, f.may) :
    Calls Tryz.prog 10 #[v] w fun e w' => e = .returned (.tuple #[.int .i64 (viol l), .int .i64 (tno l)]) ∧ Below w.heap.size w w' := by
  have HG := hide hg
  have HW := hide hw
  have HL := hide hl
  have HM := hide hm
  clear hg hw hl hm
  by_cases hv : viol l = 0
  · have HV := hide hv
    clear hv
    go_enter Tryz.func10, Tryz.ntmps10
    go_wp2_with fail
    refine (ftest_none v l _ (unhide HW) (unhide HL) (unhide HM) (unhide HV)).mono ?_
    rintro e w1 ⟨rfl, hb⟩
    have HB := hide hb
    clear hb
    go_wp2_with fail
    refine (violation_none _).mono ?_
    rintro e w2 ⟨rfl, hb2⟩
    have HB2 := hide hb2
    clear hb2
    have hG2 := ((unhide HG).below (unhide HB)).below (unhide HB2)
    have HG2 := hide hG2
    clear hG2
    go_wp2_with fail
    refine (errno_none _ (unhide HG2).st).mono ?_
    rintro e w3 ⟨rfl, rfl⟩
    go_wp2_with fail
    go_ret2
    exact ⟨ret_val (by unfold tno; rw [if_pos (unhide HV), unhide HV]; rfl), bel_then (unhide HB) (unhide HB2)⟩
  · have HV := hide hv
    clear hv
    go_enter Tryz.func10, Tryz.ntmps10
    go_wp2_with fail
    refine (ftest_some v l _ (unhide HW) (unhide HL) (unhide HM) (unhide HV)).mono ?_
    rintro e w1 ⟨⟨s, rfl⟩, hb⟩
    have HB := hide hb
    clear hb
    generalize hE : plc s (vio (viol l)) = E
    have HE := hide hE
    clear hE
    go_wp2_with fail
    rw [← unhide HE]
    refine (violation_some s (viol l) a0 a1 _ ((unhide HG).below (unhide HB))).mono ?_
    rintro e w2 ⟨rfl, hb2⟩
    have HB2 := hide hb2
    clear hb2
    rw [unhide HE]
    go_wp2_with fail
    rw [← unhide HE]
    refine (errno_late s (viol l) a0 a1 _ (((unhide HG).below (unhide HB)).below (unhide HB2))).mono ?_
    rintro e w3 ⟨rfl, hb3⟩
    have HB3 := hide hb3
    clear hb3
    go_wp2_with fail
    go_ret2
    exact ⟨ret_val (by unfold tno; rw [if_neg (unhide HV)]; rfl), bel_then (bel_then (unhide HB) (unhide HB2)) (unhide HB3)⟩
end Go.Proofs.YtcnmajndackohaaGreatDoor
/-
  What the call's beginning gives: a list of flows that came in, opened; what all listed variables hold.
-/
namespace Go.Proofs.YtcnmajndackohaaGreatDoor
open Go.ChangeShapes Go.WideShapes Go.ChangeAt Go.RowKit Go.Joins Go.Deep

theorem ofFn_at {F : Nat → Fl} {n k : Nat} (h : k < ((List.range n).map F).length) : ((List.range n).map F)[k] = F k := by simp
theorem add_at (b off i : Nat) : (⟨b, off, none⟩ : Addr).add i = ⟨b, off + i, none⟩ := by unfold Addr.add; split <;> simp_all

/-- A list of flows that came in: the flows' numbers, and where they lie. -/
theorem flows_lie {H : Type} {enc : TypeId × Value → H} {W : World} {fuel : Nat} {cs : List Value} {x : DataW H × List MemPlace}
    (h : DataW.trod enc Tryz.prog W 0 (fun _ => true) true fuel 37 cs = some x) :
    ∃ (v : Value) (l : List Fl), cs = [v] ∧ Fls W v l ∧ (∀ f ∈ l, Raw f) ∧ l.length ≤ maxLen ∧ (l = [] ∨ ∃ el sp, x.1 = .slice el sp ∧ el.length = l.length) := by
  rcases open_slice Tryz.underlying37 h with ⟨hcs, _⟩ | ⟨a, len, cap, m, n, D, Pl, hcs, _, hl, hm, hmm, hx, hel⟩
  · refine ⟨_, [], hcs, .inl ⟨rfl, _, _, rfl⟩, ?_, ?_, .inl rfl⟩
    · intro f hf; cases hf
    · exact Nat.zero_le _
  · have hmc : m = cap := by rw [hmm]; rfl
    subst hmc
    rw [cellsFlow] at hel
    have hex : ∀ i, i < m → ∃ f : Fl, Raw f ∧ ∀ q u, q < 5 → [Value.int .i64 f.s, .int .i64 f.p, .int .i64 f.b, .int .i64 f.r, .int .i64 f.d][q]? = some u → W.cell? ((a.add (i * 5)).add q) = some u := by
      intro i hi
      obtain ⟨cs', h1, h2⟩ := hel i hi
      obtain ⟨s, p, b, r, d, rfl, _, k0, k1, k2, k3, k4⟩ := flow_cells h2
      obtain ⟨_, _, h3⟩ := World.cells?_some h1
      exact ⟨⟨s, p, b, r, d⟩, ⟨k0, k1, k2, k3, k4⟩, fun q u hq hu => (h3 q hq).trans hu⟩
    haveI : Inhabited Fl := ⟨⟨0, 0, 0, 0, 0⟩⟩
    obtain ⟨F, hF⟩ := choose_lt (α := Fl) (p := fun i f => Raw f ∧ ∀ q u, q < 5 → [Value.int .i64 f.s, .int .i64 f.p, .int .i64 f.b, .int .i64 f.r, .int .i64 f.d][q]? = some u → W.cell? ((a.add (i * 5)).add q) = some u) hex
    refine ⟨_, (List.range len).map F, hcs, ?_, ?_, ?_, .inr ⟨_, _, by rw [hx], by simp⟩⟩
    · by_cases h0 : 0 < len
      · obtain ⟨b, off, spot⟩ := a
        have hspot : spot = none := by
          have := (hF 0 (by omega)).2 0 _ (by decide) rfl
          simpa [Addr.add] using World.cell?_spot this
        subst hspot
        have hc : ∀ (k : Nat), k < len → ∀ q u, q < 5 → [Value.int .i64 (F k).s, .int .i64 (F k).p, .int .i64 (F k).b, .int .i64 (F k).r, .int .i64 (F k).d][q]? = some u → W.cell? ⟨b, off + k * 5 + q, none⟩ = some u := fun k hk q u hq hu => by
          have := (hF k (by omega)).2 q u hq hu
          rwa [add_at, add_at] at this
        refine .inr ⟨b, off, m, by simp, ?_, ?_, ?_, ?_, ?_, ?_⟩
        · exact size_of_cell (hc 0 h0 0 _ (by decide) rfl)
        all_goals intro k hk
        all_goals rw [ofFn_at]
        all_goals have hk' : k < len := by simpa using hk
        · exact hc k hk' 0 _ (by decide) rfl
        · exact hc k hk' 1 _ (by decide) rfl
        · exact hc k hk' 2 _ (by decide) rfl
        · exact hc k hk' 3 _ (by decide) rfl
        · exact hc k hk' 4 _ (by decide) rfl
      · have e : len = 0 := by omega
        subst e
        exact .inl ⟨rfl, _, _, rfl⟩
    · intro f hf
      obtain ⟨i, hi, rfl⟩ := List.mem_map.1 hf
      exact (hF i (by have := List.mem_range.1 hi; omega)).1
    · simp; omega

theorem gType : Tryz.prog.globalNamed "errors.errorType" = some 6 := by kernel_rfl
theorem rt : (Tryz.prog.cutTypes.find? (·.1 == "internal/reflectlite.rtype")).map (·.2) = some 167 := by kernel_rfl
theorem oneRow : ((List.range 275).filter fun t => Tryz.prog.rowNamed t [101, 114, 114, 111, 114]) = [66] := by kernel_rfl
theorem typesSize : Tryz.prog.types.size = 275 := by kernel_rfl
theorem handle_of {W : World} (h : laidMetH Tryz.prog [("errors.errorType", Rows.laid_errors_errorType)] W) : W.cell? ⟨6, 0, none⟩ = some (.iface 167 (.agg #[.pointer (some ⟨10, 66, none⟩)])) := by
  have h' : laidMet Tryz.prog [] W ∧ handlesMet Tryz.prog [("errors.errorType", Rows.laid_errors_errorType)] W := h
  obtain ⟨name, u, ty, e1, e2, e3, e4, e5⟩ := h'.2 _ (List.mem_singleton.2 rfl)
  have en : name = [101, 114, 114, 111, 114] := (Option.some.inj e1).symm
  subst en
  obtain rfl := Option.some.inj (rt.symm.trans e2)
  have hm : ty ∈ (List.range 275).filter fun t => Tryz.prog.rowNamed t [101, 114, 114, 111, 114] := List.mem_filter.2 ⟨List.mem_range.2 (by rw [← typesSize]; exact e3), e4⟩
  rw [oneRow] at hm
  obtain rfl := List.mem_singleton.1 hm
  have hh : typeHandle Tryz.prog 66 = .pointer (some ⟨10, 66, none⟩) := by kernel_rfl
  rw [hh] at e5
  simpa using World.var?_cell gType e5 0
/-- What the sentinels and the type's handle give. -/
theorem gl_of {W : World} (h2 : laidMetH Tryz.prog sixL W) (h1 : laidMetH Tryz.prog [("errors.errorType", Rows.laid_errors_errorType)] W) : ∃ a0 a1, Gl W a0 a1 := by
  obtain ⟨a, h⟩ := snt_of h2
  exact ⟨a 0, a 2, h.c _ (by decide), h.c _ (by decide), handle_of h1, h.h _ (by decide), h.h _ (by decide), h.ne _ (by decide) _ (by decide) (by decide), h.sts, a, h⟩
end Go.Proofs.YtcnmajndackohaaGreatDoor
/-
  Whose a block is: what one of several owners does leaves the others' blocks alone.
-/
namespace Go.Proofs.YtcnmajndackohaaGreatDoor
open Go.RowKit

/-- Whose a block is; 0: nobody's. -/
abbrev Whose := Nat → Nat
/-- No block that is not there yet is anybody's. -/
def Whose.free (o : Whose) (w : World) : Prop := ∀ i, w.heap.size ≤ i → o i = 0
/-- The blocks from n up to m are c's now. -/
def Whose.give (o : Whose) (n m c : Nat) : Whose := fun i => if n ≤ i ∧ i < m then c else o i
section
variable {o : Whose} {n m c i : Nat}
theorem give_old (h : i < n) : o.give n m c i = o i := if_neg (by omega)
theorem give_new (h : n ≤ i) (k : i < m) : o.give n m c i = c := if_pos ⟨h, k⟩
theorem give_free {w w' : World} (h : o.free w) (k : w.heap.size ≤ w'.heap.size) : (o.give w.heap.size w'.heap.size c).free w' := fun i hi => by
  unfold Whose.give
  rw [if_neg (by omega)]
  exact h i (by omega)
end
/-- A row of c's. -/
def Rw (w : World) (o : Whose) (c : Nat) (t : TypeId) (size : Nat) (v : Value) (n : Nat) (cs : List Value) : Prop := w.ownsRow 0 t size v n cs ∧ ∀ g, v.ownBlock = some g → o g = c
section
variable {w w' : World} {o o' : Whose} {c : Nat} {t : TypeId} {size : Nat} {v : Value} {n : Nat} {cs : List Value}
theorem ownsRow_only {b : Nat} {S : Nat → Prop} (h : w.ownsRow b t size v n cs) (ho : Only S w w') (hs : ∀ g, v.ownBlock = some g → ¬ S g) : w'.ownsRow b t size v n cs := by
  refine ⟨h.1, ?_⟩
  rcases h.2 with e | ⟨g, cap, cur, e1, e2, e3, r⟩
  · exact .inl e
  · exact .inr ⟨g, cap, cur, e1, e2, (ho.block g (lt_of_heap e3) (hs g (by rw [e1]; rfl))).trans e3, r⟩
theorem ownsRow_lt {b : Nat} (h : w.ownsRow b t size v n cs) : ∀ g, v.ownBlock = some g → b ≤ g ∧ g < w.heap.size := by
  intro g hg
  rcases h.2 with ⟨e, _⟩ | ⟨g', cap, cur, e1, e2, e3, _⟩
  · rw [e] at hg; cases hg
  · rw [e1] at hg
    have : g' = g := Option.some.inj hg
    subst this
    exact ⟨e2, lt_of_heap e3⟩
theorem Rw.keep {S : Nat → Prop} (h : Rw w o c t size v n cs) (ho : Only S w w') (hs : ∀ i, S i → o i ≠ c) (ho' : ∀ i, i < w.heap.size → o' i = o i) : Rw w' o' c t size v n cs :=
  ⟨ownsRow_only h.1 ho fun g hg k => hs g k (h.2 g hg), fun g hg => (ho' g (ownsRow_lt h.1 g hg).2).trans (h.2 g hg)⟩
/-- What an append leaves. -/
theorem Rw.grown {w1 w2 : World} {v' : Value} {n' : Nat} {cs' : List Value} (h : Rw w o c t size v n cs) (hb : Below w.heap.size w w1) (h' : w2.ownsRow 0 t size v' n' cs') (hg : w1.grownBy w2 v.ownBlock) (hat : ∀ g, v'.ownBlock = some g → v.ownBlock = some g ∨ w.heap.size ≤ g) :
    Rw w2 (o.give w.heap.size w2.heap.size c) c t size v' n' cs' ∧ Only (fun i => o i = c) w w2 := by
  have hs : w.heap.size ≤ w2.heap.size := Nat.le_trans hb.size hg.size
  refine ⟨⟨h', fun g hg' => ?_⟩, (Only.of_below hb).grown hg fun k e _ => h.2 k e⟩
  have hlt := (ownsRow_lt h' g hg').2
  rcases hat g hg' with k | k
  · rw [give_old (ownsRow_lt h.1 g k).2]; exact h.2 g k
  · exact give_new k hlt
end
end Go.Proofs.YtcnmajndackohaaGreatDoor
