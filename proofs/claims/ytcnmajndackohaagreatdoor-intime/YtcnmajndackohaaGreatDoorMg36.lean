import Derived.Test.YtcnmajndackohaaGreatDoorMg05
import Derived.Test.YtcnmajndackohaaGreatDoorMg13
/-
  What the call's beginning gives: a script of steps that came in, opened.
-/
namespace Go.Proofs.YtcnmajndackohaaGreatDoor
open Go.ChangeShapes Go.WideShapes Go.ChangeAt Go.RowKit Go.Joins Go.Deep

theorem cellsStep : Tryz.prog.cellsOf 48 = 8 := by kernel_rfl
theorem list8 {α : Type} {l : List α} (h : l.length = 8) : ∃ c0 c1 c2 c3 c4 c5 c6 c7, l = [c0, c1, c2, c3, c4, c5, c6, c7] := by
  match l, h with
  | [c0, c1, c2, c3, c4, c5, c6, c7], _ => exact ⟨c0, c1, c2, c3, c4, c5, c6, c7, rfl⟩
def Stp.cells (q : Stp) : List Value := [.int .i64 q.kind, .int .i64 q.a, .int .i64 q.b, .int .i64 q.f.s, .int .i64 q.f.p, .int .i64 q.f.b, .int .i64 q.f.r, .int .i64 q.f.d]
set_option maxRecDepth 100000 in
/-- Eight cells that read as a step are a step. -/
theorem step_cells {H : Type} {enc : TypeId × Value → H} {w : World} {fuel : Nat} {cs : List Value} {x : DataW H × List MemPlace}
    (h : DataW.trod enc Tryz.prog w 0 (fun _ => true) true fuel 48 cs = some x) : ∃ q : Stp, cs = q.cells ∧ q.raw := by
  obtain ⟨xs, n, _, rfl, hl, hlen, hf⟩ := DataW.trod_struct Tryz.underlying48 h
  obtain ⟨c0, c1, c2, c3, c4, c5, c6, c7, rfl⟩ := list8 (hl.trans cellsStep)
  match xs, hlen with
  | [y0, y1, y2, y3], _ =>
    have h0 : DataW.trod enc Tryz.prog w 0 (fun _ => true) true n 3 [c0] = some y0 := by simpa [cellsInt] using hf 0 _ rfl
    have h1 : DataW.trod enc Tryz.prog w 0 (fun _ => true) true n 3 [c1] = some y1 := by simpa [cellsInt] using hf 1 _ rfl
    have h2 : DataW.trod enc Tryz.prog w 0 (fun _ => true) true n 3 [c2] = some y2 := by simpa [cellsInt] using hf 2 _ rfl
    have h3 : DataW.trod enc Tryz.prog w 0 (fun _ => true) true n 35 [c3, c4, c5, c6, c7] = some y3 := by simpa [cellsFlow] using hf 3 _ rfl
    obtain ⟨z0, e0, _, _⟩ := DataW.trod_int Tryz.underlying3 h0
    obtain ⟨z1, e1, _, w1⟩ := DataW.trod_int Tryz.underlying3 h1
    obtain ⟨z2, e2, _, w2⟩ := DataW.trod_int Tryz.underlying3 h2
    obtain ⟨s, p, b, r, d, e4, _, _⟩ := flow_cells h3
    simp at e0 e1 e2 e4
    subst e0 e1 e2
    obtain ⟨rfl, rfl, rfl, rfl, rfl⟩ := e4
    exact ⟨⟨z0, z1, z2, ⟨s, p, b, r, d⟩⟩, rfl, (r64_of_wf w1).1, (r64_of_wf w1).2, (r64_of_wf w2).1, (r64_of_wf w2).2⟩
theorem ofFn_st {F : Nat → Stp} {n k : Nat} (h : k < ((List.range n).map F).length) : ((List.range n).map F)[k] = F k := by simp
set_option maxRecDepth 100000 in
/-- A script that came in: its steps, and where they lie. -/
theorem steps_lie {H : Type} {enc : TypeId × Value → H} {W : World} {fuel : Nat} {cs : List Value} {x : DataW H × List MemPlace}
    (h : DataW.trod enc Tryz.prog W 0 (fun _ => true) true fuel 42 cs = some x) :
    ∃ (v : Value) (l : List Stp), cs = [v] ∧ ((l = [] ∧ ∃ a c, v = .slice a 0 c) ∨ ∃ b o c, v = .slice (some ⟨b, o, none⟩) l.length c ∧ l.length ≤ c ∧ StLies W b o l) ∧ (∀ q ∈ l, q.raw) ∧ l.length ≤ maxLen := by
  rcases open_slice Tryz.underlying42 h with ⟨hcs, _⟩ | ⟨a, len, cap, m, n, D, Pl, hcs, _, hl, hm, hmm, hx, hel⟩
  · refine ⟨_, [], hcs, .inl ⟨rfl, _, _, rfl⟩, ?_, Nat.zero_le _⟩
    intro f hf; cases hf
  · have hmc : m = cap := by rw [hmm]; rfl
    subst hmc
    rw [cellsStep] at hel
    have hex : ∀ i, i < m → ∃ f : Stp, f.raw ∧ ∀ q u, q < 8 → f.cells[q]? = some u → W.cell? ((a.add (i * 8)).add q) = some u := by
      intro i hi
      obtain ⟨cs', h1, h2⟩ := hel i hi
      obtain ⟨o, rfl, k1⟩ := step_cells h2
      obtain ⟨_, _, h3⟩ := World.cells?_some h1
      exact ⟨o, k1, fun q u hq hu => (h3 q hq).trans hu⟩
    haveI : Inhabited Stp := ⟨⟨0, 0, 0, ⟨0, 0, 0, 0, 0⟩⟩⟩
    obtain ⟨F, hF⟩ := choose_lt (α := Stp) (p := fun i f => f.raw ∧ ∀ q u, q < 8 → f.cells[q]? = some u → W.cell? ((a.add (i * 8)).add q) = some u) hex
    refine ⟨_, (List.range len).map F, hcs, ?_, ?_, by simp; omega⟩
    · by_cases h0 : 0 < len
      · obtain ⟨b, off, spot⟩ := a
        have hspot : spot = none := by
          have := (hF 0 (by omega)).2 0 _ (by decide) rfl
          simpa [Addr.add] using World.cell?_spot this
        subst hspot
        have hc : ∀ (k : Nat), k < len → ∀ q u, q < 8 → (F k).cells[q]? = some u → W.cell? ⟨b, off + k * 8 + q, none⟩ = some u := fun k hk q u hq hu => by
          have := (hF k (by omega)).2 q u hq hu
          rwa [add_at, add_at] at this
        refine .inr ⟨b, off, m, by simp, by simp; omega, size_of_cell (hc 0 h0 0 _ (by decide) rfl), fun k hk => ?_⟩
        rw [ofFn_st]
        have hk' : k < len := by simpa using hk
        exact ⟨hc k hk' 0 _ (by decide) rfl, hc k hk' 1 _ (by decide) rfl, hc k hk' 2 _ (by decide) rfl, hc k hk' 3 _ (by decide) rfl, hc k hk' 4 _ (by decide) rfl, hc k hk' 5 _ (by decide) rfl, hc k hk' 6 _ (by decide) rfl, hc k hk' 7 _ (by decide) rfl⟩
      · have e : len = 0 := by omega
        subst e
        exact .inl ⟨rfl, _, _, rfl⟩
    · intro f hf
      obtain ⟨i, hi, rfl⟩ := List.mem_map.1 hf
      exact (hF i (by have := List.mem_range.1 hi; omega)).1
end Go.Proofs.YtcnmajndackohaaGreatDoor
