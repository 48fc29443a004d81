/-
  What the call's beginning gives: a script that came in, opened, with the bound on its lists; the library's table.
-/
import Derived.Test.YtcnmajndackohaaGreatDoorAidL
import Derived.Test.YtcnmajndackohaaGreatDoorLawG
import Derived.Lib.LaidTab
import Derived.SizedLaws
namespace Go.Proofs.YtcnmajndackohaaGreatDoor
open Go.ChangeShapes Go.WideShapes Go.ChangeAt Go.RowKit Go.Joins Go.Deep

theorem cellsOp : Tryz.prog.cellsOf 71 = 10 := by kernel_rfl
theorem cellsFls : Tryz.prog.cellsOf 37 = 1 := by kernel_rfl
theorem bytesFlow : Tryz.prog.bytesOf 35 = 40 := by kernel_rfl
theorem reach_eq : reachBytes = 140737488351232 := rfl
theorem weightsAll_mem {H : Type} {P : Program} {e : TypeId} : ∀ {l : List (DataW H)} {d : DataW H}, d ∈ l → ∀ n ∈ d.weights P e, n ∈ DataW.weightsAll P e l
  | d' :: r, d, hd, n, hn => by
    simp only [DataW.weightsAll, List.mem_append]
    rcases List.mem_cons.1 hd with rfl | h
    · exact Or.inl hn
    · exact Or.inr (weightsAll_mem h n hn)
theorem list10 {α : Type} {l : List α} (h : l.length = 10) : ∃ c0 c1 c2 c3 c4 c5 c6 c7 c8 c9, l = [c0, c1, c2, c3, c4, c5, c6, c7, c8, c9] := by
  match l, h with
  | [c0, c1, c2, c3, c4, c5, c6, c7, c8, c9], _ => exact ⟨c0, c1, c2, c3, c4, c5, c6, c7, c8, c9, rfl⟩

/-- The datum of a step holds its list as its last part. -/
def Holds {H : Type} (d : DataW H) (n : Nat) : Prop := ∃ p0 p1 p2 p3 p4 dl, d = .agg [p0, p1, p2, p3, p4, dl] ∧ (n = 0 ∨ ∃ el sp, dl = .slice el sp ∧ el.length = n)

set_option maxRecDepth 100000 in
/-- Ten cells that read as a step are a step. -/
theorem op_cells {H : Type} {enc : TypeId × Value → H} {w : World} {fuel : Nat} {cs : List Value} {x : DataW H × List MemPlace}
    (h : DataW.trod enc Tryz.prog w 0 (fun _ => true) true fuel 71 cs = some x) :
    ∃ o : Opd, cs = o.cells ∧ Fls w o.lv o.l ∧ Holds x.1 o.l.length := by
  obtain ⟨xs, n, _, rfl, hl, hlen, hf⟩ := DataW.trod_struct Tryz.underlying71 h
  obtain ⟨c0, c1, c2, c3, c4, c5, c6, c7, c8, c9, rfl⟩ := list10 (hl.trans cellsOp)
  match xs, hlen with
  | [y0, y1, y2, y3, y4, y5], _ =>
    have h0 : DataW.trod enc Tryz.prog w 0 (fun _ => true) true n 3 [c0] = some y0 := by simpa [cellsInt] using hf 0 _ rfl
    have h1 : DataW.trod enc Tryz.prog w 0 (fun _ => true) true n 3 [c1] = some y1 := by simpa [cellsInt] using hf 1 _ rfl
    have h2 : DataW.trod enc Tryz.prog w 0 (fun _ => true) true n 3 [c2] = some y2 := by simpa [cellsInt] using hf 2 _ rfl
    have h3 : DataW.trod enc Tryz.prog w 0 (fun _ => true) true n 3 [c3] = some y3 := by simpa [cellsInt] using hf 3 _ rfl
    have h4 : DataW.trod enc Tryz.prog w 0 (fun _ => true) true n 35 [c4, c5, c6, c7, c8] = some y4 := by simpa [cellsFlow] using hf 4 _ rfl
    have h5 : DataW.trod enc Tryz.prog w 0 (fun _ => true) true n 37 [c9] = some y5 := by simpa [cellsFls] using hf 5 _ rfl
    obtain ⟨z0, e0, _, _⟩ := DataW.trod_int Tryz.underlying3 h0
    obtain ⟨z1, e1, _, _⟩ := DataW.trod_int Tryz.underlying3 h1
    obtain ⟨z2, e2, _, _⟩ := DataW.trod_int Tryz.underlying3 h2
    obtain ⟨z3, e3, _, _⟩ := DataW.trod_int Tryz.underlying3 h3
    obtain ⟨s, p, b, r, d, e4, _, _⟩ := flow_cells h4
    obtain ⟨v, l, e5, hfl, _, _, hsz⟩ := flows_lie h5
    simp at e0 e1 e2 e3 e4 e5
    subst e0 e1 e2 e3 e5
    obtain ⟨rfl, rfl, rfl, rfl, rfl⟩ := e4
    refine ⟨⟨z0, z1, z2, z3, ⟨s, p, b, r, d⟩, c9, l⟩, rfl, hfl, ?_⟩
    refine ⟨y0.1, y1.1, y2.1, y3.1, y4.1, y5.1, rfl, ?_⟩
    rcases hsz with rfl | hsz
    · exact .inl rfl
    · exact .inr hsz

set_option maxRecDepth 100000 in
/-- The bound on the list of one step. -/
theorem op_sized {H : Type} {elems spare : List (DataW H)} {d : DataW H} {n : Nat} (hsz : (DataW.weightsEach Tryz.prog [22] [.slice elems spare]).all (· ≤ reachBytes) = true) (hd : d ∈ elems) (hh : Holds d n) : n * 40 ≤ 140737488351232 := by
  obtain ⟨p0, p1, p2, p3, p4, dl, rfl, h | ⟨el, sp, rfl, rfl⟩⟩ := hh
  · omega
  · have key : (el.length + sp.length) * Tryz.prog.bytesOf 35 ≤ reachBytes := by
      refine of_decide_eq_true (List.all_eq_true.1 hsz _ (DataW.weights_mem_each (j := 0) rfl rfl _ ?_))
      simp only [DataW.weights, Tryz.underlying22, List.mem_cons, List.mem_append]
      refine Or.inr (Or.inl (weightsAll_mem hd _ ?_))
      simp only [DataW.weights, Tryz.underlying71]
      refine DataW.weights_mem_each (j := 5) rfl rfl _ ?_
      simp only [DataW.weights, Tryz.underlying37, List.mem_cons, true_or]
    rw [bytesFlow, reach_eq] at key
    omega

theorem ofFn_op {F : Nat → Opd} {n k : Nat} (h : k < ((List.range n).map F).length) : ((List.range n).map F)[k] = F k := by simp

set_option maxRecDepth 100000 in
/-- A script that came in: its steps, and where they lie. -/
theorem script_lie {H : Type} {enc : TypeId × Value → H} {W : World} {fuel : Nat} {cs : List Value} {x : DataW H × List MemPlace}
    (h : DataW.trod enc Tryz.prog W 0 (fun _ => true) true fuel 22 cs = some x) (hsz : (DataW.weightsEach Tryz.prog [22] [x.1]).all (· ≤ reachBytes) = true) :
    ∃ (v : Value) (s : List Opd), cs = [v] ∧ Scs W v s ∧ s.length ≤ maxLen ∧ ∀ y ∈ s, y.l.length * 40 ≤ 140737488351232 := by
  rcases open_slice Tryz.underlying22 h with ⟨hcs, _⟩ | ⟨a, len, cap, m, n, D, Pl, hcs, _, hl, hm, hmm, hx, hel⟩
  · refine ⟨_, [], hcs, .inl ⟨rfl, _, _, rfl⟩, Nat.zero_le _, ?_⟩
    intro y hy; cases hy
  · have hmc : m = cap := by rw [hmm]; rfl
    subst hmc
    rw [cellsOp] at hel
    rw [hx] at hsz
    have hex : ∀ i, i < m → ∃ f : Opd, (Fls W f.lv f.l ∧ Holds (D i) f.l.length) ∧ ∀ q u, q < 10 → f.cells[q]? = some u → W.cell? ((a.add (i * 10)).add q) = some u := by
      intro i hi
      obtain ⟨cs', h1, h2⟩ := hel i hi
      obtain ⟨o, rfl, k1, k2⟩ := op_cells h2
      obtain ⟨_, _, h3⟩ := World.cells?_some h1
      exact ⟨o, ⟨k1, k2⟩, fun q u hq hu => (h3 q hq).trans hu⟩
    haveI : Inhabited Opd := ⟨⟨0, 0, 0, 0, ⟨0, 0, 0, 0, 0⟩, .slice none 0 0, []⟩⟩
    obtain ⟨F, hF⟩ := choose_lt (α := Opd) (p := fun i f => (Fls W f.lv f.l ∧ Holds (D i) f.l.length) ∧ ∀ q u, q < 10 → f.cells[q]? = some u → W.cell? ((a.add (i * 10)).add q) = some u) hex
    refine ⟨_, (List.range len).map F, hcs, ?_, by simp; omega, ?_⟩
    · by_cases h0 : 0 < len
      · obtain ⟨b, off, spot⟩ := a
        have hspot : spot = none := by
          have := (hF 0 (by omega)).2 0 _ (by decide) rfl
          simpa [Addr.add] using World.cell?_spot this
        subst hspot
        have hc : ∀ (k : Nat), k < len → ∀ q u, (F k).cells[q]? = some u → W.cell? ⟨b, off + k * 10 + q, none⟩ = some u := fun k hk q u hu => by
          have hq : q < 10 := by
            have := (List.getElem?_eq_some_iff.1 hu).1
            simpa [Opd.cells] using this
          have := (hF k (by omega)).2 q u hq hu
          rwa [add_at, add_at] at this
        refine .inr ⟨b, off, m, by simp, ?_, ?_, ?_⟩
        · exact size_of_cell (hc 0 h0 0 _ rfl)
        · intro k hk q u hu
          rw [ofFn_op] at hu
          exact hc k (by simpa using hk) q u hu
        · intro y hy
          obtain ⟨i, hi, rfl⟩ := List.mem_map.1 hy
          exact (hF i (by have := List.mem_range.1 hi; omega)).1.1
      · have e : len = 0 := by omega
        subst e
        exact .inl ⟨rfl, _, _, rfl⟩
    · intro y hy
      obtain ⟨i, hi, rfl⟩ := List.mem_map.1 hy
      have hi' := List.mem_range.1 hi
      exact op_sized hsz (List.mem_map.2 ⟨i, hi, rfl⟩) (hF i (by omega)).1.2
end Go.Proofs.YtcnmajndackohaaGreatDoor
