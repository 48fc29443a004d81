import Derived.Test.YtcnmajndackohaaGreatDoorMg20
import Derived.Test.YtcnmajndackohaaGreatDoorMg09
import Derived.Test.YtcnmajndackohaaGreatDoorMg05
import Derived.Deep.Slices
import Derived.LaidHandle
import Derived.LaidSub
import Derived.Test.YtcnmajndackohaaGreatDoorMg15
import Derived.Test.YtcnmajndackohaaGreatDoorMg17
/-
  What the call's beginning gives: a list of flows that came in, opened; what all listed variables hold.
-/
namespace Go.Proofs.YtcnmajndackohaaGreatDoor
open Go.ChangeShapes Go.WideShapes Go.ChangeAt Go.RowKit Go.Joins Go.Deep
theorem ofFn_at {F : Nat → Fl} {n k : Nat} (h : k < ((List.range n).map F).length) : ((List.range n).map F)[k] = F k := by simp
theorem add_at (b off i : Nat) : (⟨b, off, none⟩ : Addr).add i = ⟨b, off + i, none⟩ := by unfold Addr.add; split <;> simp_all
/-- A list of flows that came in: the flows' numbers, and where they lie. -/
theorem flows_lie {H : Type} {enc : TypeId × Value → H} {W : World} {fuel : Nat} {cs : List Value} {x : DataW H × List MemPlace}
    (h : DataW.trod enc Tryz.prog W 0 (fun _ => true) true fuel 37 cs = some x) :
    ∃ (v : Value) (l : List Fl), cs = [v] ∧ Fls W v l ∧ (∀ f ∈ l, Raw f) ∧ l.length ≤ maxLen ∧ (l = [] ∨ ∃ el sp, x.1 = .slice el sp ∧ el.length = l.length) := by
  rcases open_slice Tryz.underlying37 h with ⟨hcs, _⟩ | ⟨a, len, cap, m, n, D, Pl, hcs, _, hl, hm, hmm, hx, hel⟩
  · refine ⟨_, [], hcs, .inl ⟨rfl, _, _, rfl⟩, ?_, ?_, .inl rfl⟩
    · intro f hf; cases hf
    · exact Nat.zero_le _
  · have hmc : m = cap := by rw [hmm]; rfl
    subst hmc
    rw [cellsFlow] at hel
    have hex : ∀ i, i < m → ∃ f : Fl, Raw f ∧ ∀ q u, q < 5 → [Value.int .i64 f.s, .int .i64 f.p, .int .i64 f.b, .int .i64 f.r, .int .i64 f.d][q]? = some u → W.cell? ((a.add (i * 5)).add q) = some u := by
      intro i hi
      obtain ⟨cs', h1, h2⟩ := hel i hi
      obtain ⟨s, p, b, r, d, rfl, _, k0, k1, k2, k3, k4⟩ := flow_cells h2
      obtain ⟨_, _, h3⟩ := World.cells?_some h1
      exact ⟨⟨s, p, b, r, d⟩, ⟨k0, k1, k2, k3, k4⟩, fun q u hq hu => (h3 q hq).trans hu⟩
    haveI : Inhabited Fl := ⟨⟨0, 0, 0, 0, 0⟩⟩
    obtain ⟨F, hF⟩ := choose_lt (α := Fl) (p := fun i f => Raw f ∧ ∀ q u, q < 5 → [Value.int .i64 f.s, .int .i64 f.p, .int .i64 f.b, .int .i64 f.r, .int .i64 f.d][q]? = some u → W.cell? ((a.add (i * 5)).add q) = some u) hex
    refine ⟨_, (List.range len).map F, hcs, ?_, ?_, ?_, .inr ⟨_, _, by rw [hx], by simp⟩⟩
    · by_cases h0 : 0 < len
      · obtain ⟨b, off, spot⟩ := a
        have hspot : spot = none := by
          have := (hF 0 (by omega)).2 0 _ (by decide) rfl
          simpa [Addr.add] using World.cell?_spot this
        subst hspot
        have hc : ∀ (k : Nat), k < len → ∀ q u, q < 5 → [Value.int .i64 (F k).s, .int .i64 (F k).p, .int .i64 (F k).b, .int .i64 (F k).r, .int .i64 (F k).d][q]? = some u → W.cell? ⟨b, off + k * 5 + q, none⟩ = some u := fun k hk q u hq hu => by
          have := (hF k (by omega)).2 q u hq hu
          rwa [add_at, add_at] at this
        refine .inr ⟨b, off, m, by simp, ?_, ?_, ?_, ?_, ?_, ?_⟩
        · exact size_of_cell (hc 0 h0 0 _ (by decide) rfl)
        all_goals intro k hk
        all_goals rw [ofFn_at]
        all_goals have hk' : k < len := by simpa using hk
        · exact hc k hk' 0 _ (by decide) rfl
        · exact hc k hk' 1 _ (by decide) rfl
        · exact hc k hk' 2 _ (by decide) rfl
        · exact hc k hk' 3 _ (by decide) rfl
        · exact hc k hk' 4 _ (by decide) rfl
      · have e : len = 0 := by omega
        subst e
        exact .inl ⟨rfl, _, _, rfl⟩
    · intro f hf
      obtain ⟨i, hi, rfl⟩ := List.mem_map.1 hf
      exact (hF i (by have := List.mem_range.1 hi; omega)).1
    · simp; omega
theorem gType : Tryz.prog.globalNamed "errors.errorType" = some 6 := by kernel_rfl
theorem rt : (Tryz.prog.cutTypes.find? (·.1 == "internal/reflectlite.rtype")).map (·.2) = some 167 := by kernel_rfl
theorem oneRow : ((List.range 275).filter fun t => Tryz.prog.rowNamed t [101, 114, 114, 111, 114]) = [66] := by kernel_rfl
theorem typesSize : Tryz.prog.types.size = 275 := by kernel_rfl
theorem handle_of {W : World} (h : laidMetH Tryz.prog [("errors.errorType", Rows.laid_errors_errorType)] W) : W.cell? ⟨6, 0, none⟩ = some (.iface 167 (.agg #[.pointer (some ⟨10, 66, none⟩)])) := by
  have h' : laidMet Tryz.prog [] W ∧ handlesMet Tryz.prog [("errors.errorType", Rows.laid_errors_errorType)] W := h
  obtain ⟨name, u, ty, e1, e2, e3, e4, e5⟩ := h'.2 _ (List.mem_singleton.2 rfl)
  have en : name = [101, 114, 114, 111, 114] := (Option.some.inj e1).symm
  subst en
  obtain rfl := Option.some.inj (rt.symm.trans e2)
  have hm : ty ∈ (List.range 275).filter fun t => Tryz.prog.rowNamed t [101, 114, 114, 111, 114] := List.mem_filter.2 ⟨List.mem_range.2 (by rw [← typesSize]; exact e3), e4⟩
  rw [oneRow] at hm
  obtain rfl := List.mem_singleton.1 hm
  have hh : typeHandle Tryz.prog 66 = .pointer (some ⟨10, 66, none⟩) := by kernel_rfl
  rw [hh] at e5
  simpa using World.var?_cell gType e5 0
/-- What the sentinels and the type's handle give. -/
theorem gl_of {W : World} (h2 : laidMetH Tryz.prog sixL W) (h1 : laidMetH Tryz.prog [("errors.errorType", Rows.laid_errors_errorType)] W) : ∃ a0 a1, Gl W a0 a1 := by
  obtain ⟨a, h⟩ := snt_of h2
  exact ⟨a 0, a 2, h.c _ (by decide), h.c _ (by decide), handle_of h1, h.h _ (by decide), h.h _ (by decide), h.ne _ (by decide) _ (by decide) (by decide), h.sts, a, h⟩
end Go.Proofs.YtcnmajndackohaaGreatDoor
/-
  What the document's away does.
-/
namespace Go.Proofs.YtcnmajndackohaaGreatDoor
open Go.RowKit
/-- What bounds a line's numbers. -/
structure Lbd (x : Ln) : Prop extends Plc x where
  sm : ∀ i ∈ x.began, ∀ p, x.pk[i]? = some p → -1 ≤ p.start ∧ p.start ≤ 1000000000000 ∧ 0 ≤ p.size ∧ p.size ≤ 1000
  fl : x.fl.length ≤ 1000000000
  nw : x.now ≤ 1000000000000
  own : ∀ p ∈ x.pk, 0 ≤ p.flow → p.flow.toNat < x.fl.length
  may : ∀ st ∈ x.fl, st.f.may
theorem rfirst_any (w : World) (P : Nat) (x : Ln) (o : Whose) (vf vp vb : Value) (b : Bool) (h : RefV w P x o vf vp vb) (hl : Lbd x) :
    Calls Tryz.prog 123 #[.pointer (some ⟨P, 0, none⟩), .bool b] w fun e w' => e = .returned (.int .i64 (bI (x.first b))) ∧ Below w.heap.size w w' := by
  cases b
  · exact rfirst_f w P x o vf vp vb h hl.pl hl.fl hl.nw hl.own hl.may
  · exact rfirst_t w P x o vf vp vb h hl.pl hl.fl hl.nw hl.own hl.may
/-- The first j flows, gone where they lingered. -/
def goneTo (l : List Stt) (j : Nat) : List Stt := (l.take j).map gone1 ++ l.drop j
theorem goneTo_length (l : List Stt) (j : Nat) : (goneTo l j).length = l.length := by
  unfold goneTo
  rw [List.length_append, List.length_map, List.length_take, List.length_drop]
  omega
theorem goneTo_all (l : List Stt) : goneTo l l.length = l.map gone1 := by unfold goneTo; rw [List.take_length, List.drop_length, List.append_nil]
theorem goneTo_at (l : List Stt) (j : Nat) (h : j < l.length) : (goneTo l j)[j]'(by rw [goneTo_length]; exact h) = l[j] := by
  unfold goneTo
  rw [List.getElem_append_right (by simp; omega)]
  simp [Nat.min_eq_left (Nat.le_of_lt h)]
theorem goneTo_next (l : List Stt) (j : Nat) (h : j < l.length) : goneTo l (j + 1) = (goneTo l j).set j (gone1 l[j]) := by
  unfold goneTo
  rw [List.take_succ_eq_append_getElem h, List.map_append, List.append_assoc, List.set_append_right _ _ (by simp; omega)]
  congr 1
  rw [show j - ((l.take j).map gone1).length = 0 by simp; omega, List.drop_eq_getElem_cons h]
  rfl
theorem goneTo_no (l : List Stt) (j : Nat) (h : j < l.length) (hi : l[j].is ≠ 1) : goneTo l (j + 1) = goneTo l j := by
  rw [goneTo_next l j h]
  have : gone1 l[j] = (goneTo l j)[j]'(by rw [goneTo_length]; exact h) := by rw [goneTo_at l j h]; unfold gone1; rw [if_neg hi]
  rw [this, List.set_getElem_self]
theorem goneTo_yes (l : List Stt) (j : Nat) (h : j < l.length) (hi : l[j].is = 1) : scells (goneTo l (j + 1)) = (scells (goneTo l j)).set (j * 6 + 5) (.int .i64 2) := by
  have e : gone1 l[j] = ⟨((goneTo l j)[j]'(by rw [goneTo_length]; exact h)).f, 2⟩ := by rw [goneTo_at l j h]; unfold gone1; rw [if_pos hi]
  rw [goneTo_next l j h, e]
  exact scells_is _ _ _ _
theorem RefV.flFree {w : World} {P : Nat} {x : Ln} {o : Whose} {vp vb : Value} {g n c : Nat} (h : RefV w P x o (.slice (some ⟨g, 0, none⟩) n c) vp vb) (k : Nat) : w.frozen? ⟨g, k, none⟩ = false := by
  rcases h.fl.1.2 with ⟨e, _⟩ | ⟨g', cap', cur, e1, e2, e3, _⟩
  · cases e
  · simp only [Value.slice.injEq, Option.some.injEq, Addr.mk.injEq] at e1
    obtain ⟨⟨rfl, _, _⟩, _⟩ := e1
    exact Is.frozen e3 k
theorem RefTo.fl {w wr : World} {o o1 : Whose} {P g c n j : Nat} {x : Ln} {vp vb : Value} (hv : RefV wr P { x with fl := goneTo x.fl j } o1 (.slice (some ⟨g, 0, none⟩) n c) vp vb) (ho : Only (fun i => o i ≠ 0) w wr) (hk : ∀ i, i < w.heap.size → o1 i = o i) (hl : n = (goneTo x.fl j).length) (hn : scells (goneTo x.fl (j + 1)) = (scells (goneTo x.fl j)).set (j * 6 + 5) (.int .i64 2)) : RefTo w o P { x with fl := goneTo x.fl (j + 1) } (wr.setCell ⟨g, j * 6 + 5, none⟩ (.int .i64 2)) := by
  obtain ⟨h1, h2⟩ := hv.setFl (fl := goneTo x.fl (j + 1)) (by rw [goneTo_length]; exact (goneTo_length _ _).symm) hl hn
  exact ⟨_, _, _, _, h1, ho.trans h2 (fun i hi k => by rwa [hk i hi] at k), hk⟩
theorem last_away (x : Ln) : ∃ (q : Pk) (s : Bool), lastV x = .tuple #[.agg #[.int .i64 q.flow, .int .i64 q.seq, .int .i64 q.size, .int .i64 q.ready, .int .i64 q.start, .bool q.dropped, .bool q.told], .bool s] ∧ (x.busy = true → x.ofFlow = decide (0 ≤ q.flow)) := by
  unfold lastV Ln.busy Ln.ofFlow
  cases hx : x.last with
  | none => exact ⟨⟨0, 0, 0, 0, 0, false, false⟩, false, rfl, fun c => by cases c⟩
  | some p => exact ⟨p, true, rfl, fun _ => rfl⟩
theorem bI_neg (b : Option Bst) : (b.isSome = true ∧ 0 ≤ bI b) ∨ (b.isSome = false ∧ bI b < 0) := by
  cases b with
  | none => exact .inr ⟨rfl, by decide⟩
  | some b => exact .inl ⟨rfl, Int.natCast_nonneg _⟩
set_option maxRecDepth 100000 in
set_option maxHeartbeats 4000000 in
theorem raway_any (w : World) (P : Nat) (x : Ln) (o : Whose) (vf vp vb : Value) (h : RefV w P x o vf vp vb) (hl : Lbd x) :
    Calls Tryz.prog 111 #[.pointer (some ⟨P, 0, none⟩)] w fun e w' => e = .returned (.tuple #[]) ∧ RefTo w o P x.away w' := by
  have HLa := hide (rlast_any w P x o vf vp vb h hl.toPlc)
  have HBu := hide (fun (w' : World) (hb : Below w.heap.size w w') => rbusy_any w' P x _ vf vp vb (h.below hb) hl.toPlc hl.sm)
  have HFi := hide (fun (w' : World) (hb : Below w.heap.size w w') => rfirst_any w' P x _ vf vp vb true (h.below hb) hl)
  have HAw := hide (show x.away = if (x.first true).isSome = true ∨ (x.busy = true ∧ x.ofFlow = true) then x else { x with fl := x.fl.map gone1 } from rfl)
  obtain ⟨q, s, hq, hof⟩ := last_away x
  rw [hq] at HLa
  have HOf := hide hof
  have HV := hide h
  have HBI := hide (bI_neg (x.first true))
  have hfl := hl.fl
  clear h hl hq hof
  generalize bI (x.first true) = fi at *
  go_enter Tryz.func111, Tryz.ntmps111
  go_wp2_with fail
  refine (unhide HLa).mono ?_
  rintro e w1 ⟨rfl, hb1⟩
  have HB1 := hide (bel_then hb1 (bel_one (.cells #[.int .i64 q.flow, .int .i64 q.seq, .int .i64 q.size, .int .i64 q.ready, .int .i64 q.start, .bool q.dropped, .bool q.told] 184)))
  have HI1 := hide (Is.new w1 184 #[.int .i64 q.flow, .int .i64 q.seq, .int .i64 q.size, .int .i64 q.ready, .int .i64 q.start, .bool q.dropped, .bool q.told])
  clear hb1 HLa
  go_wp2_with fail
  refine (unhide HBu _ (unhide HB1)).mono ?_
  rintro e w2 ⟨rfl, hb2⟩
  have HB2 := hide (bel_then (unhide HB1) hb2)
  have HI2 := hide ((unhide HI1).below hb2)
  clear hb2 HBu HI1 HB1
  go_wp2_with fail
  refine (unhide HFi _ (unhide HB2)).mono ?_
  rintro e w3 ⟨rfl, hb3⟩
  have HB3 := hide (bel_then (unhide HB2) hb3)
  have p0 := ((unhide HI2).below hb3).cell (j := 0) rfl
  clear hb3 HFi HI2 HB2
  have hcs : (0 ≤ fi ∧ x.away = x) ∨ (fi < 0 ∧ x.busy = true ∧ 0 ≤ q.flow ∧ x.away = x) ∨ (fi < 0 ∧ x.busy = false ∧ x.away = { x with fl := x.fl.map gone1 }) ∨ (fi < 0 ∧ x.busy = true ∧ q.flow < 0 ∧ x.away = { x with fl := x.fl.map gone1 }) := by
    rw [unhide HAw]
    rcases unhide HBI with ⟨k1, k2⟩ | ⟨k1, k2⟩
    · exact .inl ⟨k2, if_pos (.inl k1)⟩
    · refine .inr ?_
      cases hb : x.busy
      · exact .inr (.inl ⟨k2, rfl, if_neg (by rw [k1]; simp)⟩)
      · have ho := unhide HOf hb
        by_cases hf : 0 ≤ q.flow
        · exact .inl ⟨k2, rfl, hf, if_pos (.inr ⟨rfl, by rw [ho]; simpa using hf⟩)⟩
        · exact .inr (.inr ⟨k2, rfl, by omega, if_neg (by rw [k1, ho]; simp; omega)⟩)
  clear HAw HBI HOf
  have HT0 := hide (show RefTo w o P { x with fl := goneTo x.fl 0 } w3 from (unhide HV).stays (unhide HB3))
  rcases hcs with ⟨h1, hA⟩ | ⟨h1, h2, h3, hA⟩ | ⟨h1, h2, hA⟩ | ⟨h1, h2, h3, hA⟩
  · have HA := hide hA
    have e1 : decide (0 ≤ fi) = true := by simpa using h1
    clear hA
    go_wp2_with fail
    refine bodyPost_ret (results_none rfl _ _ _) rfl ?_
    exact ⟨rfl, by rw [unhide HA]; exact (unhide HV).stays (unhide HB3)⟩
  · have HA := hide hA
    have e1 : decide (0 ≤ fi) = false := by simpa using h1
    have e3 : decide (0 ≤ q.flow) = true := by simpa using h3
    clear hA
    go_wp2_with fail
    refine bodyPost_ret (results_none rfl _ _ _) rfl ?_
    exact ⟨rfl, by rw [unhide HA]; exact (unhide HV).stays (unhide HB3)⟩
  · have HA := hide hA
    have e1 : decide (0 ≤ fi) = false := by simpa using h1
    clear hA
    go_wp2_with fail
    go_loopw [6] (fun i wr => ∃ j : Nat, j ≤ x.fl.length ∧ i = .int .i64 j ∧ RefTo w o P { x with fl := goneTo x.fl j } wr) (fun i _ => x.fl.length - (intOf i).toNat)
    case atStart => exact ⟨0, Nat.zero_le _, rfl, unhide HT0⟩
    case round =>
      obtain ⟨j, hj, rfl, ht⟩ := hrel
      obtain ⟨o1, vf1, vp1, vb1, hv1, ho1, hk1⟩ := ht
      obtain ⟨af, cf, rfl⟩ := hv1.flLen
      have d1 := hv1.blk.cell (j := 1) rfl
      have hlen : (goneTo x.fl j).length = x.fl.length := goneTo_length _ _
      have HV1 := hide hv1
      have HO1 := hide ho1
      have HK1 := hide hk1
      by_cases hjn : j < x.fl.length
      · have hji : (j : Int) < (x.fl.length : Int) := by omega
        obtain ⟨g, c, hgv, hgl, hcell⟩ := hv1.flAt (by simp only; omega)
        simp only [Value.slice.injEq] at hgv
        obtain ⟨rfl, _, rfl⟩ := hgv
        have u5 := (hcell j (by simp only; omega)).2.2.2.2.2
        have zf := hv1.flFree (j * 6 + 5)
        simp only [goneTo_at x.fl j hjn] at u5
        simp only [hlen] at d1
        clear hv1 ho1 hk1 hcell
        by_cases hi : x.fl[j].is = 1
        · have HN := hide (goneTo_yes x.fl j hjn hi)
          rw [hi] at u5
          clear hi
          go_wp2_with fail
          go_roundw
          case rel => exact ⟨j + 1, by omega, by go_num, RefTo.fl (unhide HV1) (unhide HO1) (unhide HK1) rfl (unhide HN)⟩
          case measure => simp [intOf]; omega
        · have HN := hide (goneTo_no x.fl j hjn hi)
          have hd : (x.fl[j].is == 1) = false := by simpa using hi
          go_wp2_with fail
          go_roundw
          case rel => exact ⟨j + 1, by omega, by go_num, by rw [unhide HN]; exact ⟨_, _, _, _, unhide HV1, unhide HO1, unhide HK1⟩⟩
          case measure => simp [intOf]; omega
      · have hj2 : j = x.fl.length := by omega
        have HE := hide (show ({ x with fl := goneTo x.fl j } : Ln) = x.away by rw [unhide HA, hj2, goneTo_all])
        simp only [hlen] at d1
        clear hv1 ho1 hk1 hj2
        go_wp2_with fail
        go_end0
        refine ⟨rfl, ?_⟩
        rw [← unhide HE]
        exact ⟨_, _, _, _, unhide HV1, unhide HO1, unhide HK1⟩
  · have HA := hide hA
    have e1 : decide (0 ≤ fi) = false := by simpa using h1
    have e3 : decide (0 ≤ q.flow) = false := by simpa using h3
    clear hA
    go_wp2_with fail
    go_loopw [6] (fun i wr => ∃ j : Nat, j ≤ x.fl.length ∧ i = .int .i64 j ∧ RefTo w o P { x with fl := goneTo x.fl j } wr) (fun i _ => x.fl.length - (intOf i).toNat)
    case atStart => exact ⟨0, Nat.zero_le _, rfl, unhide HT0⟩
    case round =>
      obtain ⟨j, hj, rfl, ht⟩ := hrel
      obtain ⟨o1, vf1, vp1, vb1, hv1, ho1, hk1⟩ := ht
      obtain ⟨af, cf, rfl⟩ := hv1.flLen
      have d1 := hv1.blk.cell (j := 1) rfl
      have hlen : (goneTo x.fl j).length = x.fl.length := goneTo_length _ _
      have HV1 := hide hv1
      have HO1 := hide ho1
      have HK1 := hide hk1
      by_cases hjn : j < x.fl.length
      · have hji : (j : Int) < (x.fl.length : Int) := by omega
        obtain ⟨g, c, hgv, hgl, hcell⟩ := hv1.flAt (by simp only; omega)
        simp only [Value.slice.injEq] at hgv
        obtain ⟨rfl, _, rfl⟩ := hgv
        have u5 := (hcell j (by simp only; omega)).2.2.2.2.2
        have zf := hv1.flFree (j * 6 + 5)
        simp only [goneTo_at x.fl j hjn] at u5
        simp only [hlen] at d1
        clear hv1 ho1 hk1 hcell
        by_cases hi : x.fl[j].is = 1
        · have HN := hide (goneTo_yes x.fl j hjn hi)
          rw [hi] at u5
          clear hi
          go_wp2_with fail
          go_roundw
          case rel => exact ⟨j + 1, by omega, by go_num, RefTo.fl (unhide HV1) (unhide HO1) (unhide HK1) rfl (unhide HN)⟩
          case measure => simp [intOf]; omega
        · have HN := hide (goneTo_no x.fl j hjn hi)
          have hd : (x.fl[j].is == 1) = false := by simpa using hi
          go_wp2_with fail
          go_roundw
          case rel => exact ⟨j + 1, by omega, by go_num, by rw [unhide HN]; exact ⟨_, _, _, _, unhide HV1, unhide HO1, unhide HK1⟩⟩
          case measure => simp [intOf]; omega
      · have hj2 : j = x.fl.length := by omega
        have HE := hide (show ({ x with fl := goneTo x.fl j } : Ln) = x.away by rw [unhide HA, hj2, goneTo_all])
        simp only [hlen] at d1
        clear hv1 ho1 hk1 hj2
        go_wp2_with fail
        go_end0
        refine ⟨rfl, ?_⟩
        rw [← unhide HE]
        exact ⟨_, _, _, _, unhide HV1, unhide HO1, unhide HK1⟩
end Go.Proofs.YtcnmajndackohaaGreatDoor
/-
  What the document's tick does.
-/
namespace Go.Proofs.YtcnmajndackohaaGreatDoor
open Go.RowKit
theorem ncells_append (l m : List Nat) : ncells (l ++ m) = ncells l ++ ncells m := by unfold ncells; rw [List.map_append]
theorem infoIntR : (Tryz.prog.info? 3).map (fun i => (i.zero, i.size, i.bytes)) = some (some (.int .i64 0), 1, 8) := by kernel_rfl
section
variable {w w1 w2 : World} {P : Nat} {x : Ln} {o : Whose} {vf vp vb : Value}
/-- One more that began. -/
theorem RefV.bgOn (h : RefV w P x o vf vp vb) {v' : Value} {i : Nat} (hb : Below w.heap.size w w1) (h' : w2.ownsRow 0 3 1 v' (x.began.length + 1) (ncells x.began ++ [.int .i64 (i : Int)])) (hg : w1.grownBy w2 vb.ownBlock) (hat : ∀ g, v'.ownBlock = some g → vb.ownBlock = some g ∨ w.heap.size ≤ g) :
    Is w2 P 105 #[.int .i64 x.now, vf, vp, vb] ∧ RefV (w2.setCell ⟨P, 3, none⟩ v') P { x with began := x.began ++ [i] } (o.give w.heap.size w2.heap.size 4) vf vp v' ∧ Only (fun i => o i ≠ 0) w (w2.setCell ⟨P, 3, none⟩ v') := by
  obtain ⟨hr, ho⟩ := h.bg.grown hb h' hg hat
  have hI : Is w2 P 105 #[.int .i64 x.now, vf, vp, vb] := by
    refine (hg.block P (Nat.lt_of_lt_of_le h.blk.lt hb.size) (fun e => ?_)).trans (h.blk.below hb)
    have := h.bg.2 P e.symm
    rw [h.pb] at this; cases this
  have ho2 : Only (fun i => o i = 4 ∨ i = P) w (w2.setCell ⟨P, 3, none⟩ v') := (ho.mono fun i _ k => .inl k).setCell (.inl (.inr rfl))
  have old : ∀ i, i < w.heap.size → o.give w.heap.size w2.heap.size 4 i = o i := fun i hi => give_old hi
  have ne : ∀ d, d ≠ 4 → d ≠ 1 → ∀ i, (o i = 4 ∨ i = P) → o i ≠ d := fun d h3 h1 i hi e => by
    rcases hi with k | k
    · exact h3 (e.symm.trans k)
    · rw [k, h.pb] at e; exact h1 e.symm
  refine ⟨hI, ⟨hI.set 3 v', h.fl.keep ho2 (ne 2 (by decide) (by decide)) old, h.pk.keep ho2 (ne 3 (by decide) (by decide)) old, ?_, (old P h.blk.lt).trans h.pb, ?_⟩, ho2.mono fun i _ k => ?_⟩
  · refine Rw.keep (S := fun i => i = P) (o := o.give w.heap.size w2.heap.size 4) (c := 4) ?_ (only_set _ _ _ _) (fun i e => ?_) (fun _ _ => rfl)
    · rw [ncells_append, List.length_append]; exact hr
    · rw [e, old P h.blk.lt, h.pb]; decide
  · intro i hi
    rw [set_sz] at hi
    exact give_free h.fr ho.size i hi
  · rcases k with k | k
    · rw [k]; decide
    · rw [k, h.pb]; decide
theorem RefV.pkFree {g n c : Nat} (h : RefV w P x o vf (.slice (some ⟨g, 0, none⟩) n c) vb) (k : Nat) : w.frozen? ⟨g, k, none⟩ = false := by
  rcases h.pk.1.2 with ⟨e, _⟩ | ⟨g', cap', cur, e1, e2, e3, _⟩
  · cases e
  · simp only [Value.slice.injEq, Option.some.injEq, Addr.mk.injEq] at e1
    obtain ⟨⟨rfl, _, _⟩, _⟩ := e1
    exact Is.frozen e3 k
theorem RefV.bgLen (h : RefV w P x o vf vp vb) : ∃ a c, vb = .slice a x.began.length c := by
  rcases h.bg.1.2 with ⟨e1, e2⟩ | ⟨g, cap, cur, e1, _⟩
  · exact ⟨none, 0, by rw [e1, e2]⟩
  · exact ⟨_, _, e1⟩
end
theorem RefTo.then {w w1 w2 : World} {o o1 : Whose} {P : Nat} {y : Ln} (ho : Only (fun i => o i ≠ 0) w w1) (hk : ∀ i, i < w.heap.size → o1 i = o i) (h : RefTo w1 o1 P y w2) : RefTo w o P y w2 := by
  obtain ⟨o2, a, b, c, hv, ho2, hk2⟩ := h
  exact ⟨o2, a, b, c, hv, ho.trans ho2 (fun i hi k => by rwa [hk i hi] at k), fun i hi => (hk2 i (Nat.lt_of_lt_of_le hi ho.size)).trans (hk i hi)⟩
theorem Lbd.away {x : Ln} (h : Lbd x) : Lbd x.away := by
  refine away_cases h fun _ _ => ⟨⟨h.bg, h.pl, h.bl⟩, h.sm, ?_, h.nw, ?_, ?_⟩
  · show (x.fl.map gone1).length ≤ _
    rw [List.length_map]; exact h.fl
  · intro p hp h0
    show _ < (x.fl.map gone1).length
    rw [List.length_map]; exact h.own p hp h0
  · intro st hst
    obtain ⟨s, hs, rfl⟩ := List.mem_map.1 hst
    rw [gone1_f]; exact h.may s hs
theorem modify_set {α : Type} (f : α → α) : ∀ (l : List α) (i : Nat) (h : i < l.length), l.modify i f = l.set i (f l[i])
  | [], i, h => absurd h (by simp)
  | a :: l, 0, _ => rfl
  | a :: l, i + 1, h => by
    rw [List.modify_succ_cons, List.set_cons_succ, modify_set f l i (by simpa using h)]
    rfl
/-- A tick, told by which goes. -/
theorem tick_stay {x : Ln} (h : x.away.busy = true ∨ x.away.goes = none) : x.tick = { x.away with now := x.away.now + 1 } := by
  unfold Ln.tick Ln.begins
  rcases h with h | h
  · rw [if_pos h]
  · rw [h]; split <;> rfl
theorem tick_goes {x : Ln} {b : Bst} (h : x.away.busy = false) (hg : x.away.goes = some b) (hi : b.i < x.away.pk.length) : x.tick = { x.away with pk := x.away.pk.set b.i { x.away.pk[b.i] with start := x.away.now }, began := x.away.began ++ [b.i], now := x.away.now + 1 } := by
  unfold Ln.tick Ln.begins
  rw [if_neg (by rw [h]; decide), hg]
  simp only
  rw [modify_set _ _ _ hi]
  rfl
theorem first_lt {x : Ln} {f : Bool} {b : Bst} (h : x.first f = some b) : b.i < x.pk.length := by
  obtain ⟨l1, p, l2, e, hi, _⟩ := first_some h
  rw [e, hi, List.length_append, List.length_cons]
  omega
end Go.Proofs.YtcnmajndackohaaGreatDoor
/-
  Plain: no place begins twice, so what began is no longer than what was sent.
-/
namespace Go.Proofs.YtcnmajndackohaaGreatDoor
theorem nodup_len : ∀ (n : Nat) (l : List Nat), l.Nodup → (∀ i ∈ l, i < n) → l.length ≤ n
  | 0, l, _, h => by
    cases l with
    | nil => exact Nat.le_refl _
    | cons a l => exact absurd (h a (by simp)) (by omega)
  | n + 1, l, hd, h => by
    have e := nodup_len n (l.erase n) (hd.erase n) (fun i hi => by
      have h1 := (List.Nodup.mem_erase_iff hd).1 hi
      have := h i h1.2
      omega)
    have : l.length ≤ (l.erase n).length + 1 := by
      rw [List.length_erase]
      split <;> omega
    omega
theorem nd_len {x : Ln} (h : Lnv x) (hd : x.began.Nodup) : x.began.length ≤ x.pk.length :=
  nodup_len _ _ hd fun i hi => by
    obtain ⟨p, e, _⟩ := h.bg i hi
    exact (List.getElem?_eq_some_iff.1 e).1
theorem nd_tick {x : Ln} (h : Lnv x) (hd : x.began.Nodup) : x.tick.began.Nodup := by
  have hY := h.away
  have hyd : x.away.began.Nodup := away_cases (P := fun y => y.began.Nodup) hd fun _ _ => hd
  cases hb : x.away.busy
  · cases hg : x.away.goes with
    | none => rw [tick_stay (.inr hg)]; exact hyd
    | some b =>
      obtain ⟨l1, p, l2, e, hi, hel, _⟩ := goes_some hg
      have hlt : b.i < x.away.pk.length := by rw [e, hi, List.length_append, List.length_cons]; omega
      rw [tick_goes hb hg hlt]
      refine List.nodup_append.2 ⟨hyd, by simp, fun a ha c hc => ?_⟩
      rw [List.mem_singleton] at hc
      rintro rfl
      obtain ⟨q, hq, h0⟩ := hY.bg a ha
      rw [hc, hi, e, get_at] at hq
      cases hq
      have := hel.1
      omega
  · rw [tick_stay (.inl hb)]; exact hyd
theorem nd_ticks : ∀ (n : Nat) {x : Ln}, Lnv x → x.began.Nodup → (x.ticks n).began.Nodup
  | 0, _, _, hd => hd
  | n + 1, _, h, hd => nd_ticks n h.tick (nd_tick h hd)
end Go.Proofs.YtcnmajndackohaaGreatDoor
/-
  What the document's tick does: the walk.
-/
namespace Go.Proofs.YtcnmajndackohaaGreatDoor
open Go.RowKit
set_option maxRecDepth 100000 in
set_option maxHeartbeats 4000000 in
theorem rtick_any (w : World) (P : Nat) (x : Ln) (o : Whose) (vf vp vb : Value) (h : RefV w P x o vf vp vb) (hl : Lbd x) (hnow : 0 ≤ x.now) :
    Calls Tryz.prog 105 #[.pointer (some ⟨P, 0, none⟩)] w fun e w' => e = .returned (.tuple #[]) ∧ RefTo w o P x.tick w' := by
  have HAw := hide (raway_any w P x o vf vp vb h hl)
  have hY := hl.away
  have hny : x.away.now = x.now := away_cases (P := fun y => y.now = x.now) rfl fun _ _ => rfl
  have HSt := hide (@tick_stay x)
  have HGo := hide (fun (b : Bst) => @tick_goes x b)
  generalize x.away = y at *
  generalize x.tick = z at *
  have hy0 : 0 ≤ y.now := by omega
  have hy1 := hY.nw
  have hyl := hY.pl
  have hyb := hY.bl
  have HY := hide hY
  clear h hl hnow hny hY
  go_enter Tryz.func105, Tryz.ntmps105
  go_wp2_with fail
  refine (unhide HAw).mono ?_
  rintro e w1 ⟨rfl, ht⟩
  obtain ⟨o1, vf1, vp1, vb1, hv1, ho1, hk1⟩ := ht
  have HV := hide hv1
  have HO1 := hide ho1
  have HK1 := hide hk1
  have HBu := hide (rbusy_any w1 P y _ vf1 vp1 vb1 hv1 (unhide HY).toPlc (unhide HY).sm)
  have HF1 := hide (fun (w' : World) (hb : Below w1.heap.size w1 w') => rfirst_any w' P y _ vf1 vp1 vb1 true (hv1.below hb) (unhide HY))
  have HF2 := hide (fun (w' : World) (hb : Below w1.heap.size w1 w') => rfirst_any w' P y _ vf1 vp1 vb1 false (hv1.below hb) (unhide HY))
  clear hv1 ho1 hk1 HAw
  go_wp2_with fail
  refine (unhide HBu).mono ?_
  rintro e w2 ⟨rfl, hb2⟩
  have HB2 := hide hb2
  clear hb2 HBu
  go_wp2_with fail
  refine (unhide HF1 _ (unhide HB2)).mono ?_
  rintro e w3 ⟨rfl, hb3⟩
  have HB3 := hide (bel_then (unhide HB2) hb3)
  clear hb3 HF1 HB2
  cases hf1 : y.first true with
  | some b =>
    have hgo : y.goes = some b := by unfold Ln.goes; rw [hf1]
    have hbl := first_lt hf1
    have hbi : bI (some b) = (b.i : Int) := rfl
    rw [hbi]
    clear hf1 hbi HF2
    cases hbz : y.busy
    · have HE := hide (unhide HGo b hbz hgo hbl)
      clear hbz hgo HSt HGo
      obtain ⟨gp, cp, rfl, hgp, hpc⟩ := (unhide HV).pkAt (by omega)
      obtain ⟨ab, cb, rfl⟩ := (unhide HV).bgLen
      have HV3 := hide ((unhide HV).below (unhide HB3))
      have c0 := (unhide HV3).blk.cell (j := 0) rfl
      have c2 := (unhide HV3).blk.cell (j := 2) rfl
      have hPl := (unhide HV3).blk.lt
      have zf := (unhide HV3).pkFree (b.i * 7 + 4)
      have hq4 := (unhide HB3).cell (p := ⟨gp, b.i * 7 + 4, none⟩) hgp
      have q4 := hq4.trans (hpc b.i hbl).2.2.2.2.1
      clear hq4
      have HP := hide ((unhide HV3).setPk (pk := y.pk.set b.i { y.pk[b.i] with start := y.now }) (by rw [List.length_set]) rfl (pcells_field y.pk b.i hbl y.now).1)
      have HV4 := hide ((unhide HP).1.below (show Below _ _ (w3.setCell ⟨gp, b.i * 7 + 4, none⟩ (.int .i64 y.now)).drew from (Below.refl _ _).drew))
      have c3 := (unhide HV4).blk.cell (j := 3) rfl
      have hP4 := (unhide HV4).blk.lt
      have c3A := (World.cell?_alloc_past (w := (w3.setCell ⟨gp, b.i * 7 + 4, none⟩ (.int .i64 y.now)).drew) (.cells #[.int .i64 (b.i : Int)] 3) P 3 hP4).trans c3
      have HBA := hide (bel_one (w := (w3.setCell ⟨gp, b.i * 7 + 4, none⟩ (.int .i64 y.now)).drew) (.cells #[.int .i64 (b.i : Int)] 3))
      obtain ⟨i0, hi0, hz0, hz1, hz2⟩ := info_anyR infoIntR
      have HI0 := hide hi0
      have HZ0 := hide hz0
      have HZ1 := hide hz1
      have HZ2 := hide hz2
      have hbI : (b.i : Int) < (y.pk.length : Int) := by omega
      clear hi0 hz0 hz1 hz2 hpc
      go_wp2_with fail
      go_region
      all_goals
        have HOS := hide (show Only (fun i => (o1.give w1.heap.size w3.heap.size 0) i ≠ 0) w3 (w3.setCell ⟨gp, b.i * 7 + 4, none⟩ (.int .i64 y.now)).drew from (unhide HP).2.drew)
        have HKS := hide (show ∀ i, i < w3.heap.size → ((o1.give w1.heap.size w3.heap.size 0).give (w3.setCell ⟨gp, b.i * 7 + 4, none⟩ (.int .i64 y.now)).heap.size (w3.setCell ⟨gp, b.i * 7 + 4, none⟩ (.int .i64 y.now)).drew.heap.size 0) i = (o1.give w1.heap.size w3.heap.size 0) i from fun i hi => give_old (by rw [set_sz]; exact hi))
        generalize (w3.setCell ⟨gp, b.i * 7 + 4, none⟩ (.int .i64 y.now)).drew = X4 at *
        generalize ((o1.give w1.heap.size w3.heap.size 0).give (w3.setCell ⟨gp, b.i * 7 + 4, none⟩ (.int .i64 y.now)).heap.size X4.heap.size 0) = o4 at *
        clear c0 c2 zf q4 HP HV3 hPl
        go_wp2_with (at_builtin; refine wpList_append_lies _ (by rfl) _ _ 27 (by rfl) 0 3 i0 _ 1 8 Tryz.underlying27 (unhide HI0) (unhide HZ0) (unhide HZ1) (unhide HZ2) rfl (by omega) (.slice ab y.began.length cb) y.began.length (ncells y.began) (by rfl) (World.ownsRow.alloc (unhide HV4).bg.1 _) ⟨X4.heap.size, 0, none⟩ 1 1 [.int .i64 (b.i : Int)] (by rfl) (by rfl) (World.news_of_block (cs := #[.int .i64 (b.i : Int)]) (t := 3) (fr := (0, 0)) (heap_alloc_new X4 _)) (by simp [Value.oneCell']) (by omega) (by unfold maxLen; omega) (by omega) (Nat.zero_le _) (X4.heap.size + 1) (by simp) ?_; intro g5 cap5 w5 hown5 hgrow5 hat5 hlt5; have hX := (unhide HV4).bgOn (i := b.i) (unhide HBA) hown5 hgrow5 (fun g' hg' => hat5.imp (fun e => e.trans hg') (fun e => by have e' : g5 = g' := Option.some.inj hg'; omega)); have c5 := hX.1.cell (j := 3) rfl; have z5 := hX.1.frozen 3; have c6 := hX.2.1.blk.cell (j := 0) rfl; have z6 := hX.2.1.blk.frozen 0)
        have HX := hide hX.2
        have HN := hide (hX.2.1.setNow (v := y.now + 1))
        clear hX hown5 hgrow5 hat5 hlt5
        go_wp2_with fail
        go_end0
        refine ⟨rfl, ?_⟩
        rw [unhide HE]
        refine RefTo.then (unhide HO1) (unhide HK1) (RefTo.then (Only.of_below (unhide HB3)) (fun i hi => give_old hi) (RefTo.then (unhide HOS) (unhide HKS) (RefTo.then (unhide HX).2 (fun i hi => give_old hi) ⟨_, _, _, _, (unhide HN).1, (unhide HN).2, fun _ _ => rfl⟩)))
    · have HE := hide (unhide HSt (.inl hbz))
      clear hbz hgo HSt HGo
      have HV3 := hide ((unhide HV).below (unhide HB3))
      have c0 := (unhide HV3).blk.cell (j := 0) rfl
      have z0 := (unhide HV3).blk.frozen 0
      have HN := hide ((unhide HV3).setNow (v := y.now + 1))
      go_wp2_with fail
      go_end0
      refine ⟨rfl, ?_⟩
      rw [unhide HE]
      exact RefTo.then (unhide HO1) (unhide HK1) (RefTo.then (Only.of_below (unhide HB3)) (fun i hi => give_old hi) ⟨_, _, _, _, (unhide HN).1, (unhide HN).2, fun _ _ => rfl⟩)
  | none =>
    have hbi : bI none = -1 := rfl
    rw [hbi]
    clear hbi
    go_wp2_with fail
    refine (unhide HF2 _ (unhide HB3)).mono ?_
    rintro e w4 ⟨rfl, hb4⟩
    have HB4 := hide (bel_then (unhide HB3) hb4)
    clear hb4 HF2 HB3
    cases hf2 : y.first false with
    | some b =>
      have hgo : y.goes = some b := by unfold Ln.goes; rw [hf1]; exact hf2
      have hbl := first_lt hf2
      have hbi : bI (some b) = (b.i : Int) := rfl
      rw [hbi]
      clear hf1 hf2 hbi
      cases hbz : y.busy
      · have HE := hide (unhide HGo b hbz hgo hbl)
        clear hbz hgo HSt HGo
        obtain ⟨gp, cp, rfl, hgp, hpc⟩ := (unhide HV).pkAt (by omega)
        obtain ⟨ab, cb, rfl⟩ := (unhide HV).bgLen
        have HV3 := hide ((unhide HV).below (unhide HB4))
        have c0 := (unhide HV3).blk.cell (j := 0) rfl
        have c2 := (unhide HV3).blk.cell (j := 2) rfl
        have hPl := (unhide HV3).blk.lt
        have zf := (unhide HV3).pkFree (b.i * 7 + 4)
        have hq4 := (unhide HB4).cell (p := ⟨gp, b.i * 7 + 4, none⟩) hgp
        have q4 := hq4.trans (hpc b.i hbl).2.2.2.2.1
        clear hq4
        have HP := hide ((unhide HV3).setPk (pk := y.pk.set b.i { y.pk[b.i] with start := y.now }) (by rw [List.length_set]) rfl (pcells_field y.pk b.i hbl y.now).1)
        have HV4 := hide ((unhide HP).1.below (show Below _ _ (w4.setCell ⟨gp, b.i * 7 + 4, none⟩ (.int .i64 y.now)).drew from (Below.refl _ _).drew))
        have c3 := (unhide HV4).blk.cell (j := 3) rfl
        have hP4 := (unhide HV4).blk.lt
        have c3A := (World.cell?_alloc_past (w := (w4.setCell ⟨gp, b.i * 7 + 4, none⟩ (.int .i64 y.now)).drew) (.cells #[.int .i64 (b.i : Int)] 3) P 3 hP4).trans c3
        have HBA := hide (bel_one (w := (w4.setCell ⟨gp, b.i * 7 + 4, none⟩ (.int .i64 y.now)).drew) (.cells #[.int .i64 (b.i : Int)] 3))
        obtain ⟨i0, hi0, hz0, hz1, hz2⟩ := info_anyR infoIntR
        have HI0 := hide hi0
        have HZ0 := hide hz0
        have HZ1 := hide hz1
        have HZ2 := hide hz2
        have hbI : (b.i : Int) < (y.pk.length : Int) := by omega
        clear hi0 hz0 hz1 hz2 hpc
        go_wp2_with fail
        go_region
        all_goals
          have HOS := hide (show Only (fun i => (o1.give w1.heap.size w4.heap.size 0) i ≠ 0) w4 (w4.setCell ⟨gp, b.i * 7 + 4, none⟩ (.int .i64 y.now)).drew from (unhide HP).2.drew)
          have HKS := hide (show ∀ i, i < w4.heap.size → ((o1.give w1.heap.size w4.heap.size 0).give (w4.setCell ⟨gp, b.i * 7 + 4, none⟩ (.int .i64 y.now)).heap.size (w4.setCell ⟨gp, b.i * 7 + 4, none⟩ (.int .i64 y.now)).drew.heap.size 0) i = (o1.give w1.heap.size w4.heap.size 0) i from fun i hi => give_old (by rw [set_sz]; exact hi))
          generalize (w4.setCell ⟨gp, b.i * 7 + 4, none⟩ (.int .i64 y.now)).drew = X4 at *
          generalize ((o1.give w1.heap.size w4.heap.size 0).give (w4.setCell ⟨gp, b.i * 7 + 4, none⟩ (.int .i64 y.now)).heap.size X4.heap.size 0) = o4 at *
          clear c0 c2 zf q4 HP HV3 hPl
          go_wp2_with (at_builtin; refine wpList_append_lies _ (by rfl) _ _ 27 (by rfl) 0 3 i0 _ 1 8 Tryz.underlying27 (unhide HI0) (unhide HZ0) (unhide HZ1) (unhide HZ2) rfl (by omega) (.slice ab y.began.length cb) y.began.length (ncells y.began) (by rfl) (World.ownsRow.alloc (unhide HV4).bg.1 _) ⟨X4.heap.size, 0, none⟩ 1 1 [.int .i64 (b.i : Int)] (by rfl) (by rfl) (World.news_of_block (cs := #[.int .i64 (b.i : Int)]) (t := 3) (fr := (0, 0)) (heap_alloc_new X4 _)) (by simp [Value.oneCell']) (by omega) (by unfold maxLen; omega) (by omega) (Nat.zero_le _) (X4.heap.size + 1) (by simp) ?_; intro g5 cap5 w5 hown5 hgrow5 hat5 hlt5; have hX := (unhide HV4).bgOn (i := b.i) (unhide HBA) hown5 hgrow5 (fun g' hg' => hat5.imp (fun e => e.trans hg') (fun e => by have e' : g5 = g' := Option.some.inj hg'; omega)); have c5 := hX.1.cell (j := 3) rfl; have z5 := hX.1.frozen 3; have c6 := hX.2.1.blk.cell (j := 0) rfl; have z6 := hX.2.1.blk.frozen 0)
          have HX := hide hX.2
          have HN := hide (hX.2.1.setNow (v := y.now + 1))
          clear hX hown5 hgrow5 hat5 hlt5
          go_wp2_with fail
          go_end0
          refine ⟨rfl, ?_⟩
          rw [unhide HE]
          refine RefTo.then (unhide HO1) (unhide HK1) (RefTo.then (Only.of_below (unhide HB4)) (fun i hi => give_old hi) (RefTo.then (unhide HOS) (unhide HKS) (RefTo.then (unhide HX).2 (fun i hi => give_old hi) ⟨_, _, _, _, (unhide HN).1, (unhide HN).2, fun _ _ => rfl⟩)))
      · have HE := hide (unhide HSt (.inl hbz))
        clear hbz hgo HSt HGo
        have HV3 := hide ((unhide HV).below (unhide HB4))
        have c0 := (unhide HV3).blk.cell (j := 0) rfl
        have z0 := (unhide HV3).blk.frozen 0
        have HN := hide ((unhide HV3).setNow (v := y.now + 1))
        go_wp2_with fail
        go_end0
        refine ⟨rfl, ?_⟩
        rw [unhide HE]
        exact RefTo.then (unhide HO1) (unhide HK1) (RefTo.then (Only.of_below (unhide HB4)) (fun i hi => give_old hi) ⟨_, _, _, _, (unhide HN).1, (unhide HN).2, fun _ _ => rfl⟩)
    | none =>
      have hgo : y.goes = none := by unfold Ln.goes; rw [hf1]; exact hf2
      have hbi : bI none = -1 := rfl
      rw [hbi]
      have HE := hide (unhide HSt (.inr hgo))
      clear hf1 hf2 hbi hgo HSt HGo
      cases hbz : y.busy
      all_goals
        clear hbz
        have HV3 := hide ((unhide HV).below (unhide HB4))
        have c0 := (unhide HV3).blk.cell (j := 0) rfl
        have z0 := (unhide HV3).blk.frozen 0
        have HN := hide ((unhide HV3).setNow (v := y.now + 1))
        go_wp2_with fail
        go_end0
        refine ⟨rfl, ?_⟩
        rw [unhide HE]
        exact RefTo.then (unhide HO1) (unhide HK1) (RefTo.then (Only.of_below (unhide HB4)) (fun i hi => give_old hi) ⟨_, _, _, _, (unhide HN).1, (unhide HN).2, fun _ _ => rfl⟩)
end Go.Proofs.YtcnmajndackohaaGreatDoor
/-
  What the document's Run does.
-/
namespace Go.Proofs.YtcnmajndackohaaGreatDoor
open Go.RowKit
theorem ticks_snoc : ∀ (n : Nat) (x : Ln), x.ticks (n + 1) = (x.ticks n).tick
  | 0, _ => rfl
  | n + 1, x => by
    show x.tick.ticks (n + 1) = _
    rw [ticks_snoc n x.tick]
    rfl
theorem lbd_ticks {x : Ln} {n : Nat} (hL : Lnv x) (hs : Sml x n) (hn : n ≤ 2000000) (hb : x.began.length ≤ 90000000) (hfl : x.fl.length ≤ 1000000000) (k : Nat) (hk : k ≤ 200) : Lbd (x.ticks k) := by
  have L := hL.ticks k
  obtain ⟨s1, s2, s3⟩ := ticks_sk k x
  have hf := congrArg List.length (ticks_fl k x)
  have hp := congrArg List.length s2
  rw [List.length_map, List.length_map] at hf hp
  have hnw := hs.now
  have hpl := hs.pk
  refine ⟨⟨fun i hi => ?_, by omega, by omega⟩, fun i hi p hp' => ?_, by omega, by omega, L.own, L.may⟩
  · obtain ⟨p, e, _⟩ := L.bg i hi
    exact (List.getElem?_eq_some_iff.1 e).1
  · obtain ⟨q, e, h0⟩ := L.bg i hi
    rw [hp'] at e
    cases e
    have hm : p ∈ (x.ticks k).pk := List.mem_of_getElem? hp'
    have h1 := L.st p hm h0
    have h2 := L.sz p hm
    omega
set_option maxRecDepth 100000 in
set_option maxHeartbeats 2000000 in
theorem rrun_any (w : World) (P : Nat) (x : Ln) (o : Whose) (vf vp vb : Value) (n : Nat) (k : Int) (h : RefV w P x o vf vp vb) (hL : Lnv x) (hs : Sml x n) (hn : n ≤ 2000000) (hb : x.began.length ≤ 90000000) (hfl : x.fl.length ≤ 1000000000) :
    Calls Tryz.prog 79 #[.pointer (some ⟨P, 0, none⟩), .int .i64 k] w fun e w' => e = .returned (.int .i64 (x.run k).1) ∧ RefTo w o P (x.run k).2 w' := by
  have HV := hide h
  by_cases hk : k < 0 ∨ 200 < k
  · have HE := hide (show x.run k = (1, x) by unfold Ln.run; rw [if_pos hk])
    generalize x.run k = sd at *
    clear h hL hs hn hb hfl
    go_enter Tryz.func79, Tryz.ntmps79
    rcases hk with h1 | h1
    · go_wp2_with fail
      go_ret
      refine ⟨ret_int (by rw [unhide HE]), ?_⟩
      rw [unhide HE]
      exact (unhide HV).stays (Below.refl _ _)
    · go_wp2_with fail
      go_ret
      refine ⟨ret_int (by rw [unhide HE]), ?_⟩
      rw [unhide HE]
      exact (unhide HV).stays (Below.refl _ _)
  · obtain ⟨m, rfl⟩ : ∃ m : Nat, k = (m : Int) := ⟨k.toNat, by omega⟩
    have hm : m ≤ 200 := by omega
    have HE := hide (show x.run (m : Int) = (0, x.ticks m) by unfold Ln.run; rw [if_neg hk, Int.toNat_natCast])
    have HT := hide (fun (j : Nat) (hj : j ≤ 200) (w' : World) (o' : Whose) (vf' vp' vb' : Value) (h' : RefV w' P (x.ticks j) o' vf' vp' vb') => rtick_any w' P (x.ticks j) o' vf' vp' vb' h' (lbd_ticks hL hs hn hb hfl j hj) (hL.ticks j).n0)
    have e1 : decide ((m : Int) < 0) = false := by simp
    have e2 : decide (200 < (m : Int)) = false := by simp; omega
    generalize x.run (m : Int) = sd at *
    clear h hL hs hn hb hfl hk
    go_enter Tryz.func79, Tryz.ntmps79
    go_wp2_with fail
    go_loopw [5] (fun i wr => ∃ j : Nat, j ≤ m ∧ i = .int .i64 j ∧ RefTo w o P (x.ticks j) wr) (fun i _ => m - (intOf i).toNat)
    case atStart => exact ⟨0, Nat.zero_le _, rfl, (unhide HV).stays (Below.refl _ _)⟩
    case round =>
      obtain ⟨j, hj, rfl, ht⟩ := hrel
      by_cases hjm : j < m
      · have hji : (j : Int) < (m : Int) := by omega
        obtain ⟨o1, vf1, vp1, vb1, hv1, ho1, hk1⟩ := ht
        have HK := hide (unhide HT j (by omega) _ _ _ _ _ hv1)
        have HO1 := hide ho1
        have HK1 := hide hk1
        clear hv1 ho1 hk1
        go_wp2_with fail
        refine (unhide HK).mono ?_
        rintro e w2 ⟨rfl, ht2⟩
        have HT2 := hide (show RefTo w o P (x.ticks (j + 1)) w2 by rw [ticks_snoc]; exact RefTo.then (unhide HO1) (unhide HK1) ht2)
        clear ht2 HK
        go_wp2_with fail
        go_roundw
        case rel => exact ⟨j + 1, by omega, by go_num, unhide HT2⟩
        case measure => simp [intOf]; omega
      · have hj2 : j = m := by omega
        have HTm := hide (show RefTo w o P (x.ticks m) _ from hj2 ▸ ht)
        clear ht hj2
        go_wp2_with fail
        go_ret
        refine ⟨ret_int (by rw [unhide HE]), ?_⟩
        rw [unhide HE]
        exact unhide HTm
end Go.Proofs.YtcnmajndackohaaGreatDoor
/-
  What the document's Teardown does.
-/
namespace Go.Proofs.YtcnmajndackohaaGreatDoor
open Go.RowKit
/-- The first j of a list, changed. -/
def mapTo {α : Type} (f : α → α) (l : List α) (j : Nat) : List α := (l.take j).map f ++ l.drop j
section
variable {α : Type} (f : α → α) (l : List α)
theorem mapTo_length (j : Nat) : (mapTo f l j).length = l.length := by
  unfold mapTo
  rw [List.length_append, List.length_map, List.length_take, List.length_drop]
  omega
theorem mapTo_all : mapTo f l l.length = l.map f := by unfold mapTo; rw [List.take_length, List.drop_length, List.append_nil]
theorem mapTo_at (j : Nat) (h : j < l.length) : (mapTo f l j)[j]'(by rw [mapTo_length]; exact h) = l[j] := by
  unfold mapTo
  rw [List.getElem_append_right (by simp; omega)]
  simp [Nat.min_eq_left (Nat.le_of_lt h)]
theorem mapTo_next (j : Nat) (h : j < l.length) : mapTo f l (j + 1) = (mapTo f l j).set j (f l[j]) := by
  unfold mapTo
  rw [List.take_succ_eq_append_getElem h, List.map_append, List.append_assoc, List.set_append_right _ _ (by simp; omega)]
  congr 1
  rw [show j - ((l.take j).map f).length = 0 by simp; omega, List.drop_eq_getElem_cons h]
  rfl
theorem mapTo_no (j : Nat) (h : j < l.length) (hi : f l[j] = l[j]) : mapTo f l (j + 1) = mapTo f l j := by
  rw [mapTo_next f l j h]
  have : f l[j] = (mapTo f l j)[j]'(by rw [mapTo_length]; exact h) := by rw [mapTo_at f l j h]; exact hi
  rw [this, List.set_getElem_self]
end
theorem mapTo_drop (f : Pk → Pk) (l : List Pk) (j : Nat) (h : j < l.length) (hi : f l[j] = { l[j] with dropped := true }) : pcells (mapTo f l (j + 1)) = (pcells (mapTo f l j)).set (j * 7 + 5) (.bool true) := by
  have e : f l[j] = { (mapTo f l j)[j]'(by rw [mapTo_length]; exact h) with dropped := true } := by rw [mapTo_at f l j h]; exact hi
  rw [mapTo_next f l j h, e]
  exact (pcells_field _ _ _ 0).2.1
end Go.Proofs.YtcnmajndackohaaGreatDoor
/-
  What the document's Teardown does: the walk.
-/
namespace Go.Proofs.YtcnmajndackohaaGreatDoor
open Go.RowKit
theorem drp_same (now k : Int) (p : Pk) : (drp now k p).flow = p.flow ∧ (drp now k p).start = p.start ∧ (drp now k p).size = p.size := by
  unfold drp
  split <;> exact ⟨rfl, rfl, rfl⟩
theorem Lbd.torn {x : Ln} (h : Lbd x) (j : Nat) (hj : j < x.fl.length) (k : Int) : Lbd { x with fl := x.fl.set j ⟨x.fl[j].f, 1⟩, pk := x.pk.map (drp x.now k) } := by
  refine ⟨⟨fun i hi => ?_, ?_, h.bl⟩, fun i hi p hp => ?_, ?_, h.nw, fun p hp h0 => ?_, fun st hst => ?_⟩
  · show i < (x.pk.map (drp x.now k)).length
    rw [List.length_map]; exact h.bg i hi
  · show (x.pk.map (drp x.now k)).length ≤ _
    rw [List.length_map]; exact h.pl
  · have hp' : (x.pk.map (drp x.now k))[i]? = some p := hp
    rw [List.getElem?_map, Option.map_eq_some_iff] at hp'
    obtain ⟨q, hq, rfl⟩ := hp'
    obtain ⟨_, e2, e3⟩ := drp_same x.now k q
    rw [e2, e3]
    exact h.sm i hi q hq
  · show (x.fl.set j ⟨x.fl[j].f, 1⟩).length ≤ _
    rw [List.length_set]; exact h.fl
  · show p.flow.toNat < (x.fl.set j ⟨x.fl[j].f, 1⟩).length
    rw [List.length_set]
    obtain ⟨q, hq, rfl⟩ := List.mem_map.1 hp
    rw [(drp_same x.now k q).1] at h0 ⊢
    exact h.own q hq h0
  · rcases List.mem_or_eq_of_mem_set hst with g | g
    · exact h.may st g
    · rw [g]; exact h.may x.fl[j] (List.getElem_mem hj)
theorem RefTo.pk {w wr w' : World} {o o1 : Whose} {P g c n k : Nat} {y : Ln} {vf vb v : Value} {pk : List Pk} (hv : RefV wr P y o1 vf (.slice (some ⟨g, 0, none⟩) n c) vb) (ho : Only (fun i => o i ≠ 0) w wr) (hk : ∀ i, i < w.heap.size → o1 i = o i) (hb : Below wr.heap.size wr w') (hl : pk.length = y.pk.length) (hn : n = y.pk.length) (hc : pcells pk = (pcells y.pk).set k v) : RefTo w o P { y with pk := pk } (w'.setCell ⟨g, k, none⟩ v) := by
  have S := (hv.below hb).setPk hl hn hc
  exact RefTo.then ho hk (RefTo.then (Only.of_below hb) (fun i hi => give_old hi) ⟨_, _, _, _, S.1, S.2, fun _ _ => rfl⟩)
theorem tear_dead {x : Ln} {k : Int} (h : x.livesB k = false) : x.teardown k = (4, x) := by
  unfold Ln.livesB at h
  unfold Ln.teardown
  cases ha : x.at? k with
  | none => rfl
  | some st =>
    rw [ha] at h
    simp only [decide_eq_false_iff_not] at h
    simp only
    rw [if_pos h]
theorem tear_live {x : Ln} {j : Nat} (hj : j < x.fl.length) (ha : x.at? (j : Int) = some x.fl[j]) (hi : x.fl[j].is = 0) : x.teardown (j : Int) = (0, Ln.away { x with fl := x.fl.set j ⟨x.fl[j].f, 1⟩, pk := x.pk.map (drp x.now (j : Int)) }) := by
  unfold Ln.teardown
  rw [ha]
  simp only
  rw [if_neg (fun c => c hi), Int.toNat_natCast]
set_option maxRecDepth 100000 in
set_option maxHeartbeats 4000000 in
theorem rtear_any (w : World) (P : Nat) (x : Ln) (o : Whose) (vf vp vb : Value) (k : Int) (h : RefV w P x o vf vp vb) (hl : Lbd x) :
    Calls Tryz.prog 83 #[.pointer (some ⟨P, 0, none⟩), .int .i64 k] w fun e w' => e = .returned (.int .i64 (x.teardown k).1) ∧ RefTo w o P (x.teardown k).2 w' := by
  have HV := hide h
  have HLv := hide (rlives_any w P x o vf vp vb k h hl.fl)
  cases hlv : x.livesB k
  · rw [tear_dead hlv]
    rw [hlv] at HLv
    clear h hl hlv
    go_enter Tryz.func83, Tryz.ntmps83
    go_wp2_with fail
    refine (unhide HLv).mono ?_
    rintro e w1 ⟨rfl, hb1⟩
    have HB1 := hide hb1
    clear hb1
    go_wp2_with fail
    go_ret
    exact ⟨rfl, (unhide HV).stays (unhide HB1)⟩
  · obtain ⟨m, hm, rfl, ha, hi⟩ := lives_some hlv
    have HE := hide (tear_live hm ha hi)
    have HLb := hide (hl.torn m hm (m : Int))
    rw [hlv] at HLv
    have hpl := hl.pl
    have hfl := hl.fl
    have hmi : (m : Int) < (x.fl.length : Int) := by omega
    obtain ⟨gf, cf, rfl, hgf, hfc⟩ := h.flAt (by omega)
    have HSc := hide (scells_is x.fl m hm 1)
    have u5 := (hfc m hm).2.2.2.2.2
    generalize x.teardown (m : Int) = sd at *
    have HDr := hide (show ∀ p : Pk, drp x.now (m : Int) p = if p.flow = (m : Int) ∧ p.start < 0 ∧ (p.ready < 0 ∨ x.now < p.ready) then { p with dropped := true } else p from fun _ => rfl)
    generalize drp x.now (m : Int) = F at *
    clear h hl hlv ha hi hfc
    go_enter Tryz.func83, Tryz.ntmps83
    go_wp2_with fail
    refine (unhide HLv).mono ?_
    rintro e w1 ⟨rfl, hb1⟩
    have HB1 := hide hb1
    have HV1 := hide ((unhide HV).below hb1)
    have c1 := (unhide HV1).blk.cell (j := 1) rfl
    have z1 := (unhide HV1).flFree (m * 6 + 5)
    have v5 := (hb1.cell (p := ⟨gf, m * 6 + 5, none⟩) hgf).trans u5
    have HS := hide ((unhide HV1).setFl (fl := x.fl.set m ⟨x.fl[m].f, 1⟩) (by rw [List.length_set]) rfl (unhide HSc))
    have HT0 := hide (show RefTo w o P { x with fl := x.fl.set m ⟨x.fl[m].f, 1⟩, pk := mapTo F x.pk 0 } (w1.setCell ⟨gf, m * 6 + 5, none⟩ (.int .i64 1)) from RefTo.then (Only.of_below (unhide HB1)) (fun i hi => give_old hi) ⟨_, _, _, _, (unhide HS).1, (unhide HS).2, fun _ _ => rfl⟩)
    clear hb1 HLv u5
    generalize x.fl.set m ⟨x.fl[m].f, 1⟩ = fl1 at *
    go_wp2_with fail
    go_loopw [6] (fun i wr => ∃ j : Nat, j ≤ x.pk.length ∧ i = .int .i64 j ∧ RefTo w o P { x with fl := fl1, pk := mapTo F x.pk j } wr) (fun i _ => x.pk.length - (intOf i).toNat)
    case atStart => exact ⟨0, Nat.zero_le _, rfl, unhide HT0⟩
    case round =>
      obtain ⟨j, hj, rfl, ht⟩ := hrel
      have HT := hide ht
      obtain ⟨o1, vf1, vp1, vb1, hv1, ho1, hk1⟩ := ht
      have hlen : (mapTo F x.pk j).length = x.pk.length := mapTo_length _ _ _
      obtain ⟨ap, cp, rfl⟩ := hv1.pkLen
      have d0 := hv1.blk.cell (j := 0) rfl
      have d2 := hv1.blk.cell (j := 2) rfl
      have hPr := hv1.blk.lt
      have HV1 := hide hv1
      have HO1 := hide ho1
      have HK1 := hide hk1
      simp only [hlen] at d0 d2
      clear c1 z1 v5 HS HT0
      by_cases hjn : j < x.pk.length
      · have hji : (j : Int) < (x.pk.length : Int) := by omega
        obtain ⟨g, c, hgv, hgl, hcell⟩ := hv1.pkAt (by simp only; omega)
        simp only [Value.slice.injEq] at hgv
        obtain ⟨rfl, _, rfl⟩ := hgv
        have hc := hcell j (by simp only; omega)
        simp only [mapTo_at F x.pk j hjn] at hc
        obtain ⟨f0, f1, f2, f3, f4, f5, f6⟩ := hc
        have HNo := hide (mapTo_no F x.pk j hjn)
        have HYe := hide (mapTo_drop F x.pk j hjn)
        have HDj := hide (unhide HDr x.pk[j])
        clear hv1 ho1 hk1 hcell HT
        generalize x.pk[j] = p at *
        have old : ∀ (b i : Nat), b < wr.heap.size → (wr.alloc (.cells #[.int .i64 p.flow, .int .i64 p.seq, .int .i64 p.size, .int .i64 p.ready, .int .i64 p.start, .bool p.dropped, .bool p.told] 184)).cell? ⟨b, i, none⟩ = wr.cell? ⟨b, i, none⟩ := fun b i hb => World.cell?_alloc_past _ b i hb
        have a0 := (old P 0 hPr).trans d0
        have a2 := (old P 2 hPr).trans d2
        have zf := ((unhide HV1).below (bel_one (w := wr) (.cells #[.int .i64 p.flow, .int .i64 p.seq, .int .i64 p.size, .int .i64 p.ready, .int .i64 p.start, .bool p.dropped, .bool p.told] 184))).pkFree (j * 7 + 5)
        clear old
        have hcs : p.flow ≠ (m : Int) ∨ (p.flow = (m : Int) ∧ 0 ≤ p.start) ∨ (p.flow = (m : Int) ∧ p.start < 0 ∧ 0 ≤ p.ready ∧ p.ready ≤ x.now) ∨ (p.flow = (m : Int) ∧ p.start < 0 ∧ p.ready < 0) ∨ (p.flow = (m : Int) ∧ p.start < 0 ∧ 0 ≤ p.ready ∧ x.now < p.ready) := by omega
        rcases hcs with h1 | ⟨h1, h2⟩ | ⟨h1, h2, h3, h4⟩ | ⟨h1, h2, h3⟩ | ⟨h1, h2, h3, h4⟩
        · have HN := hide (unhide HNo (by rw [unhide HDj, if_neg (fun c => h1 c.1)]))
          have e1 : (p.flow == (m : Int)) = false := by simpa using h1
          go_wp2_with fail
          go_quiet (fail)
          go_wp2_with fail
          go_roundw
          case rel => exact ⟨j + 1, by omega, by go_num, by rw [unhide HN]; exact RefTo.then (unhide HO1) (unhide HK1) ((unhide HV1).stays (below_drewN (bel_one _) _))⟩
          case measure => simp [intOf]; omega
        · have HN := hide (unhide HNo (by rw [unhide HDj, if_neg (fun c => by omega)]))
          have e1 : (p.flow == (m : Int)) = true := by simpa using h1
          have e2 : decide (p.start < 0) = false := by simpa using h2
          clear h1
          go_wp2_with fail
          go_quiet (fail)
          go_wp2_with fail
          go_roundw
          case rel => exact ⟨j + 1, by omega, by go_num, by rw [unhide HN]; exact RefTo.then (unhide HO1) (unhide HK1) ((unhide HV1).stays (below_drewN (bel_one _) _))⟩
          case measure => simp [intOf]; omega
        · have HN := hide (unhide HNo (by rw [unhide HDj, if_neg (fun c => by omega)]))
          have e1 : (p.flow == (m : Int)) = true := by simpa using h1
          have e2 : decide (p.start < 0) = true := by simpa using h2
          have e3 : decide (p.ready < 0) = false := by simpa using h3
          have e4 : decide (x.now < p.ready) = false := by simpa using h4
          clear h1
          go_wp2_with fail
          go_quiet (fail)
          go_wp2_with fail
          go_roundw
          case rel => exact ⟨j + 1, by omega, by go_num, by rw [unhide HN]; exact RefTo.then (unhide HO1) (unhide HK1) ((unhide HV1).stays (below_drewN (bel_one _) _))⟩
          case measure => simp [intOf]; omega
        · have HN := hide (unhide HYe (by rw [unhide HDj, if_pos ⟨h1, h2, .inl h3⟩]))
          have e1 : (p.flow == (m : Int)) = true := by simpa using h1
          have e2 : decide (p.start < 0) = true := by simpa using h2
          have e3 : decide (p.ready < 0) = true := by simpa using h3
          clear h1
          go_wp2_with fail
          go_quiet (fail)
          go_wp2_with fail
          go_roundw
          case rel => exact ⟨j + 1, by omega, by go_num, RefTo.pk (unhide HV1) (unhide HO1) (unhide HK1) (below_drewN (bel_one _) _) (by simp only [mapTo_length]) rfl (unhide HN)⟩
          case measure => simp [intOf]; omega
        · have HN := hide (unhide HYe (by rw [unhide HDj, if_pos ⟨h1, h2, .inr h4⟩]))
          have e1 : (p.flow == (m : Int)) = true := by simpa using h1
          have e2 : decide (p.start < 0) = true := by simpa using h2
          have e3 : decide (p.ready < 0) = false := by simpa using h3
          have e4 : decide (x.now < p.ready) = true := by simpa using h4
          clear h1
          go_wp2_with fail
          go_quiet (fail)
          go_wp2_with fail
          go_roundw
          case rel => exact ⟨j + 1, by omega, by go_num, RefTo.pk (unhide HV1) (unhide HO1) (unhide HK1) (below_drewN (bel_one _) _) (by simp only [mapTo_length]) rfl (unhide HN)⟩
          case measure => simp [intOf]; omega
      · have hj2 : j = x.pk.length := by omega
        have HA := hide (raway_any wr P _ _ _ _ _ (unhide HV1) (by rw [hj2, mapTo_all]; exact unhide HLb))
        have HEq := hide (show sd = (0, Ln.away { x with fl := fl1, pk := mapTo F x.pk j }) by rw [unhide HE, hj2, mapTo_all])
        clear hv1 ho1 hk1 hj2
        go_wp2_with fail
        refine (unhide HA).mono ?_
        rintro e w5 ⟨rfl, ht5⟩
        have HT5 := hide (RefTo.then (unhide HO1) (unhide HK1) ht5)
        clear ht5
        go_wp2_with fail
        go_ret
        refine ⟨ret_int (by rw [unhide HEq]), ?_⟩
        rw [unhide HEq]
        exact unhide HT5
end Go.Proofs.YtcnmajndackohaaGreatDoor
