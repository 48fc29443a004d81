/-
  What the call's beginning gives: a list of flows that came in, opened; what all listed variables hold.
-/
import Derived.Test.YtcnmajndackohaaDoorAid
import Derived.Test.YtcnmajndackohaaDoorTestW
import Derived.Test.YtcnmajndackohaaDoorFit
import Derived.Deep.Slices
import Derived.LaidHandle
import Derived.LaidSub
namespace Go.Proofs.YtcnmajndackohaaDoor
open Go.ChangeShapes Go.WideShapes Go.ChangeAt Go.RowKit Go.Joins Go.Deep

theorem ofFn_at {F : Nat → Fl} {n k : Nat} (h : k < ((List.range n).map F).length) : ((List.range n).map F)[k] = F k := by simp
theorem add_at (b off i : Nat) : (⟨b, off, none⟩ : Addr).add i = ⟨b, off + i, none⟩ := by unfold Addr.add; split <;> simp_all

/-- A list of flows that came in: the flows' numbers, and where they lie. -/
theorem flows_lie {H : Type} {enc : TypeId × Value → H} {W : World} {fuel : Nat} {cs : List Value} {x : DataW H × List MemPlace}
    (h : DataW.trod enc Tryd.prog W 0 (fun _ => true) true fuel 28 cs = some x) :
    ∃ (v : Value) (l : List Fl), cs = [v] ∧ Fls W v l ∧ (∀ f ∈ l, Raw f) ∧ l.length ≤ maxLen ∧ (l = [] ∨ ∃ el sp, x.1 = .slice el sp ∧ el.length = l.length) := by
  rcases open_slice Tryd.underlying28 h with ⟨hcs, _⟩ | ⟨a, len, cap, m, n, D, Pl, hcs, _, hl, hm, hmm, hx, hel⟩
  · refine ⟨_, [], hcs, .inl ⟨rfl, _, _, rfl⟩, ?_, ?_, .inl rfl⟩
    · intro f hf; cases hf
    · exact Nat.zero_le _
  · have hmc : m = cap := by rw [hmm]; rfl
    subst hmc
    rw [cellsFlow] at hel
    have hex : ∀ i, i < m → ∃ f : Fl, Raw f ∧ ∀ q u, q < 5 → [Value.int .i64 f.s, .int .i64 f.p, .int .i64 f.b, .int .i64 f.r, .int .i64 f.d][q]? = some u → W.cell? ((a.add (i * 5)).add q) = some u := by
      intro i hi
      obtain ⟨cs', h1, h2⟩ := hel i hi
      obtain ⟨s, p, b, r, d, rfl, _, k0, k1, k2, k3, k4⟩ := flow_cells h2
      obtain ⟨_, _, h3⟩ := World.cells?_some h1
      exact ⟨⟨s, p, b, r, d⟩, ⟨k0, k1, k2, k3, k4⟩, fun q u hq hu => (h3 q hq).trans hu⟩
    haveI : Inhabited Fl := ⟨⟨0, 0, 0, 0, 0⟩⟩
    obtain ⟨F, hF⟩ := choose_lt (α := Fl) (p := fun i f => Raw f ∧ ∀ q u, q < 5 → [Value.int .i64 f.s, .int .i64 f.p, .int .i64 f.b, .int .i64 f.r, .int .i64 f.d][q]? = some u → W.cell? ((a.add (i * 5)).add q) = some u) hex
    refine ⟨_, (List.range len).map F, hcs, ?_, ?_, ?_, .inr ⟨_, _, by rw [hx], by simp⟩⟩
    · by_cases h0 : 0 < len
      · obtain ⟨b, off, spot⟩ := a
        have hspot : spot = none := by
          have := (hF 0 (by omega)).2 0 _ (by decide) rfl
          simpa [Addr.add] using World.cell?_spot this
        subst hspot
        have hc : ∀ (k : Nat), k < len → ∀ q u, q < 5 → [Value.int .i64 (F k).s, .int .i64 (F k).p, .int .i64 (F k).b, .int .i64 (F k).r, .int .i64 (F k).d][q]? = some u → W.cell? ⟨b, off + k * 5 + q, none⟩ = some u := fun k hk q u hq hu => by
          have := (hF k (by omega)).2 q u hq hu
          rwa [add_at, add_at] at this
        refine .inr ⟨b, off, m, by simp, ?_, ?_, ?_, ?_, ?_, ?_⟩
        · exact size_of_cell (hc 0 h0 0 _ (by decide) rfl)
        all_goals intro k hk
        all_goals rw [ofFn_at]
        all_goals have hk' : k < len := by simpa using hk
        · exact hc k hk' 0 _ (by decide) rfl
        · exact hc k hk' 1 _ (by decide) rfl
        · exact hc k hk' 2 _ (by decide) rfl
        · exact hc k hk' 3 _ (by decide) rfl
        · exact hc k hk' 4 _ (by decide) rfl
      · have e : len = 0 := by omega
        subst e
        exact .inl ⟨rfl, _, _, rfl⟩
    · intro f hf
      obtain ⟨i, hi, rfl⟩ := List.mem_map.1 hf
      exact (hF i (by have := List.mem_range.1 hi; omega)).1
    · simp; omega

theorem gType : Tryd.prog.globalNamed "errors.errorType" = some 6 := by kernel_rfl
theorem rt : (Tryd.prog.cutTypes.find? (·.1 == "internal/reflectlite.rtype")).map (·.2) = some 73 := by kernel_rfl
theorem oneRow : ((List.range 140).filter fun t => Tryd.prog.rowNamed t [101, 114, 114, 111, 114]) = [38] := by kernel_rfl
theorem typesSize : Tryd.prog.types.size = 140 := by kernel_rfl
theorem handle_of {W : World} (h : laidMetH Tryd.prog [("errors.errorType", Rows.laid_errors_errorType)] W) : W.cell? ⟨6, 0, none⟩ = some (.iface 73 (.agg #[.pointer (some ⟨10, 38, none⟩)])) := by
  have h' : laidMet Tryd.prog [] W ∧ handlesMet Tryd.prog [("errors.errorType", Rows.laid_errors_errorType)] W := h
  obtain ⟨name, u, ty, e1, e2, e3, e4, e5⟩ := h'.2 _ (List.mem_singleton.2 rfl)
  have en : name = [101, 114, 114, 111, 114] := (Option.some.inj e1).symm
  subst en
  obtain rfl := Option.some.inj (rt.symm.trans e2)
  have hm : ty ∈ (List.range 140).filter fun t => Tryd.prog.rowNamed t [101, 114, 114, 111, 114] := List.mem_filter.2 ⟨List.mem_range.2 (by rw [← typesSize]; exact e3), e4⟩
  rw [oneRow] at hm
  obtain rfl := List.mem_singleton.1 hm
  have hh : typeHandle Tryd.prog 38 = .pointer (some ⟨10, 38, none⟩) := by kernel_rfl
  rw [hh] at e5
  simpa using World.var?_cell gType e5 0
/-- What the sentinels and the type's handle give. -/
theorem gl_of {W : World} (h2 : laidMetH Tryd.prog sixL W) (h1 : laidMetH Tryd.prog [("errors.errorType", Rows.laid_errors_errorType)] W) : ∃ a0 a1, Gl W a0 a1 := by
  obtain ⟨a, h⟩ := snt_of h2
  exact ⟨a 0, a 2, h.c _ (by decide), h.c _ (by decide), handle_of h1, h.h _ (by decide), h.h _ (by decide), h.ne _ (by decide) _ (by decide) (by decide), h.sts, a, h⟩
end Go.Proofs.YtcnmajndackohaaDoor
