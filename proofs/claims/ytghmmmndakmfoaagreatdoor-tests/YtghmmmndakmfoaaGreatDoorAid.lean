/-
  What the call's beginning gives: a flow that came in, opened; the two sentinels that are laid.
-/
import Derived.Test.YtghmmmndakmfoaaGreatDoorRows
import Derived.Test.YtghmmmndakmfoaaGreatDoorWalkB
import Derived.Test.YtghmmmndakmfoaaGreatDoorNum
import Derived.ProofKit
import Derived.Handy
import Derived.Lay
import Derived.Carry
import Derived.Lib.SmallJoins
import Derived.Stop.LaidTwo
namespace Go.Proofs.YtghmmmndakmfoaaGreatDoor
open Go.ChangeShapes Go.WideShapes Go.ChangeAt Go.RowKit Go.Joins Go.Deep

theorem own : ownKnob Tryz.prog.godebug = none := by kernel_rfl
theorem laidOut : laidOutB Tryz.prog = true := by kernel_rfl
theorem cellsFlow : Tryz.prog.cellsOf 35 = 5 := by kernel_rfl
theorem cellsInt : Tryz.prog.cellsOf 3 = 1 := by kernel_rfl
theorem r64_of_wf {x : Int} (h : Lit.wf (.int .i64 x) = true) : R64 x := by
  have : -9223372036854775808 ≤ x ∧ x ≤ 9223372036854775807 := by simpa [Lit.wf, IntKind.min, IntKind.max, IntKind.signed, IntKind.bits] using h
  exact ⟨this.1, this.2⟩
theorem list5 {α : Type} {l : List α} (h : l.length = 5) : ∃ c0 c1 c2 c3 c4, l = [c0, c1, c2, c3, c4] := by
  match l, h with
  | [c0, c1, c2, c3, c4], _ => exact ⟨c0, c1, c2, c3, c4, rfl⟩

section
variable {H : Type} {enc : TypeId × Value → H} {P : Program} {w : World} {base : Nat} {spare : Nat → Bool} {held : Bool}
theorem trod_struct5 {t : TypeId} {f0 f1 f2 f3 f4 : Field} {fuel : Nat} {cs : List Value} {x : DataW H × List MemPlace} (ht : P.underlying t = some (.struct #[f0, f1, f2, f3, f4])) (h : DataW.trod enc P w base spare held fuel t cs = some x) :
    ∃ y0 y1 y2 y3 y4 n, x = (.agg [y0.1, y1.1, y2.1, y3.1, y4.1], y0.2 ++ (y1.2 ++ (y2.2 ++ (y3.2 ++ y4.2)))) ∧ cs.length = P.cellsOf t ∧ DataW.trod enc P w base spare held n f0.type ((cs.drop f0.offset).take (P.cellsOf f0.type)) = some y0 ∧
      DataW.trod enc P w base spare held n f1.type ((cs.drop f1.offset).take (P.cellsOf f1.type)) = some y1 ∧ DataW.trod enc P w base spare held n f2.type ((cs.drop f2.offset).take (P.cellsOf f2.type)) = some y2 ∧
      DataW.trod enc P w base spare held n f3.type ((cs.drop f3.offset).take (P.cellsOf f3.type)) = some y3 ∧ DataW.trod enc P w base spare held n f4.type ((cs.drop f4.offset).take (P.cellsOf f4.type)) = some y4 := by
  obtain ⟨xs, n, _, rfl, hl, hlen, hf⟩ := DataW.trod_struct ht h
  match xs, hlen with
  | [y0, y1, y2, y3, y4], _ => exact ⟨y0, y1, y2, y3, y4, n, by simp, hl, by simpa using hf 0 f0 rfl, by simpa using hf 1 f1 rfl, by simpa using hf 2 f2 rfl, by simpa using hf 3 f3 rfl, by simpa using hf 4 f4 rfl⟩
theorem cells_agg5 {t : TypeId} {f0 f1 f2 f3 f4 : Field} {fuel : Nat} {cs : List Value} {x : DataW H × List MemPlace} (hs : P.underlying t = some (.struct #[f0, f1, f2, f3, f4])) (hone : oneCellFields P #[f0, f1, f2, f3, f4] = true) (hC : P.cellsOf t = 5)
    (h : DataW.trod enc P w base spare held fuel t cs = some x) :
    ∃ (c0 c1 c2 c3 c4 : Value) (y0 y1 y2 y3 y4 : DataW H × List MemPlace) (n : Nat), cs = [c0, c1, c2, c3, c4] ∧ x = (.agg [y0.1, y1.1, y2.1, y3.1, y4.1], y0.2 ++ (y1.2 ++ (y2.2 ++ (y3.2 ++ y4.2)))) ∧
      DataW.trod enc P w base spare held n f0.type [c0] = some y0 ∧ DataW.trod enc P w base spare held n f1.type [c1] = some y1 ∧ DataW.trod enc P w base spare held n f2.type [c2] = some y2 ∧ DataW.trod enc P w base spare held n f3.type [c3] = some y3 ∧ DataW.trod enc P w base spare held n f4.type [c4] = some y4 := by
  obtain ⟨y0, y1, y2, y3, y4, n, hx, hl, h0, h1, h2, h3, h4⟩ := trod_struct5 hs h
  obtain ⟨c0, c1, c2, c3, c4, rfl⟩ := list5 (hl.trans hC)
  obtain ⟨o0, k0⟩ := hone_of hone 0 f0 rfl
  obtain ⟨o1, k1⟩ := hone_of hone 1 f1 rfl
  obtain ⟨o2, k2⟩ := hone_of hone 2 f2 rfl
  obtain ⟨o3, k3⟩ := hone_of hone 3 f3 rfl
  obtain ⟨o4, k4⟩ := hone_of hone 4 f4 rfl
  exact ⟨c0, c1, c2, c3, c4, y0, y1, y2, y3, y4, n, rfl, hx, by simpa [o0, k0] using h0, by simpa [o1, k1] using h1, by simpa [o2, k2] using h2, by simpa [o3, k3] using h3, by simpa [o4, k4] using h4⟩
theorem struct_form {r : Reach} {b0 : Nat} {t : TypeId} {fs : Array Field} {v : Value} (hs : P.underlying t = some (.struct fs)) (hv : Value.okWide P w r b0 t v) : ∃ l : List Value, v = .agg ⟨l⟩ := by
  obtain ⟨⟨l⟩, rfl, _⟩ := okWide_struct hs hv
  exact ⟨l, rfl⟩
end

/-- Five cells that read as a flow are five numbers, and the datum holds them. -/
theorem flow_cells {H : Type} {enc : TypeId × Value → H} {w : World} {base : Nat} {spare : Nat → Bool} {held : Bool} {fuel : Nat} {cs : List Value} {x : DataW H × List MemPlace}
    (h : DataW.trod enc Tryz.prog w base spare held fuel 35 cs = some x) :
    ∃ s p b r d : Int, cs = [.int .i64 s, .int .i64 p, .int .i64 b, .int .i64 r, .int .i64 d] ∧ x = (.agg [.lit (.int .i64 s), .lit (.int .i64 p), .lit (.int .i64 b), .lit (.int .i64 r), .lit (.int .i64 d)], []) ∧ R64 s ∧ R64 p ∧ R64 b ∧ R64 r ∧ R64 d := by
  obtain ⟨c0, c1, c2, c3, c4, y0, y1, y2, y3, y4, n, rfl, rfl, h0, h1, h2, h3, h4⟩ := cells_agg5 Tryz.underlying35 (by kernel_rfl) cellsFlow h
  obtain ⟨s, e0, rfl, w0⟩ := DataW.trod_int Tryz.underlying3 h0
  obtain ⟨p, e1, rfl, w1⟩ := DataW.trod_int Tryz.underlying3 h1
  obtain ⟨b, e2, rfl, w2⟩ := DataW.trod_int Tryz.underlying3 h2
  obtain ⟨r, e3, rfl, w3⟩ := DataW.trod_int Tryz.underlying3 h3
  obtain ⟨d, e4, rfl, w4⟩ := DataW.trod_int Tryz.underlying3 h4
  simp only [List.cons.injEq, and_true] at e0 e1 e2 e3 e4
  subst e0 e1 e2 e3 e4
  exact ⟨s, p, b, r, d, rfl, rfl, r64_of_wf w0, r64_of_wf w1, r64_of_wf w2, r64_of_wf w3, r64_of_wf w4⟩

set_option maxRecDepth 100000 in
theorem open_flow {H : Type} {enc : TypeId × Value → H} {w : World} {rr : Reach} {b0 : Nat} {base : Nat} {spare : Nat → Bool} {held : Bool} {v : Value} {x : DataW H} {pl : List MemPlace}
    (hv : Value.okWide Tryz.prog w rr b0 35 v) (h : DataW.Trod enc Tryz.prog w base spare held 35 v x pl) :
    ∃ s p b r d : Int, v = .agg #[.int .i64 s, .int .i64 p, .int .i64 b, .int .i64 r, .int .i64 d] ∧ pl = [] ∧ R64 s ∧ R64 p ∧ R64 b ∧ R64 r ∧ R64 d := by
  obtain ⟨l, rfl⟩ := struct_form Tryz.underlying35 hv
  obtain ⟨fuel, hf⟩ := h
  obtain ⟨s, p, b, r, d, e, ex, k⟩ := flow_cells hf
  simp only [Prod.mk.injEq] at ex
  refine ⟨s, p, b, r, d, ?_, ex.2, k⟩
  have e' : l = [.int .i64 s, .int .i64 p, .int .i64 b, .int .i64 r, .int .i64 d] := e
  rw [e']

theorem gArg : Tryz.prog.globalNamed "towpath/fault.ErrArg" = some 0 := by kernel_rfl
theorem gLate : Tryz.prog.globalNamed "towpath/fault.ErrLate" = some 1 := by kernel_rfl
theorem gArgType : (Tryz.prog.globals[0]?).map (·.type) = some 41 := by kernel_rfl
theorem gLateType : (Tryz.prog.globals[1]?).map (·.type) = some 41 := by kernel_rfl
theorem star : "*" ++ "errors.errorString" = "*errors.errorString" := by decide
theorem rowErr (u : TypeId) (h : Tryz.prog.typeName? 3 u = some "*errors.errorString") : u = 160 :=
  typeName_ptr_named (nm := "errors.errorString") (by rw [star]; kernel_rfl) (by kernel_rfl) (by decide) u (by rw [star]; exact h)
theorem cellsES : Tryz.prog.cellsOf 183 = 1 := by kernel_rfl
theorem cellsStr : Tryz.prog.cellsOf 9 = 1 := by kernel_rfl

theorem size_of_cell {W : World} {b o : Nat} {v : Value} (h : W.cell? ⟨b, o, none⟩ = some v) : b < W.heap.size := World.block_lt_of_cell? _ _ h
end Go.Proofs.YtghmmmndakmfoaaGreatDoor
