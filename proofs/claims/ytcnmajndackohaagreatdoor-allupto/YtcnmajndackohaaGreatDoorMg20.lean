import Derived.Test.YtcnmajndackohaaGreatDoorMg05
import Derived.Test.YtcnmajndackohaaGreatDoorRows
import Derived.Test.YtcnmajndackohaaGreatDoorMg03
import Derived.ProofKit
import Derived.Handy
import Derived.Lay
import Derived.Carry
import Derived.Lib.SmallJoins
import Derived.Stop.LaidTwo
import Derived.MakeChecks
import Derived.Test.YtcnmajndackohaaGreatDoorMg08
import Derived.OwnWalk
import Derived.Laws.CopyOwn
import Derived.Test.YtcnmajndackohaaGreatDoorMg10
import Derived.Test.YtcnmajndackohaaGreatDoorMg07
import Derived.Shelf.Small.Bits
import Derived.Shelf.Small.Wraps
import Derived.Shelf.Strconv.Itoa0
import Derived.Shelf.Strconv.Itoa1
import Derived.Shelf.LaysM
import Derived.Shelf.Strconv.Itoa2
import Derived.Shelf.Strconv.Itoa3
import Derived.Shelf.Sort.Plain
import Derived.Ground.Names2Prog
import Derived.Shelf.Slices.SearchI
import Derived.Shelf.Slices.In.SortNone
import Derived.Test.YtcnmajndackohaaGreatDoorProg
import Derived.Deep.DrawnRows
import Derived.Deep.AppendLies
import Derived.Test.YtcnmajndackohaaGreatDoorMg13
import Derived.Deep.RegionLaw
import Derived.BigQuiet
import Derived.Deep.QuietTactic
import Derived.Deep.DeepAppendRoom
/-
  Numbers that an int holds, and flows of them.
-/
namespace Go.Proofs.YtcnmajndackohaaGreatDoor
structure R64 (x : Int) : Prop where
  lo : -9223372036854775808 ≤ x
  hi : x ≤ 9223372036854775807
structure Raw (f : Fl) : Prop where
  s : R64 f.s
  p : R64 f.p
  b : R64 f.b
  r : R64 f.r
  d : R64 f.d
end Go.Proofs.YtcnmajndackohaaGreatDoor
/-
  What the call's beginning gives: a flow that came in, opened; the two sentinels that are laid.
-/
namespace Go.Proofs.YtcnmajndackohaaGreatDoor
open Go.ChangeShapes Go.WideShapes Go.ChangeAt Go.RowKit Go.Joins Go.Deep
theorem own : ownKnob Tryz.prog.godebug = none := by kernel_rfl
theorem laidOut : laidOutB Tryz.prog = true := by kernel_rfl
theorem cellsFlow : Tryz.prog.cellsOf 35 = 5 := by kernel_rfl
theorem cellsInt : Tryz.prog.cellsOf 3 = 1 := by kernel_rfl
theorem r64_of_wf {x : Int} (h : Lit.wf (.int .i64 x) = true) : R64 x := by
  have : -9223372036854775808 ≤ x ∧ x ≤ 9223372036854775807 := by simpa [Lit.wf, IntKind.min, IntKind.max, IntKind.signed, IntKind.bits] using h
  exact ⟨this.1, this.2⟩
theorem list5 {α : Type} {l : List α} (h : l.length = 5) : ∃ c0 c1 c2 c3 c4, l = [c0, c1, c2, c3, c4] := by
  match l, h with
  | [c0, c1, c2, c3, c4], _ => exact ⟨c0, c1, c2, c3, c4, rfl⟩
section
variable {H : Type} {enc : TypeId × Value → H} {P : Program} {w : World} {base : Nat} {spare : Nat → Bool} {held : Bool}
theorem trod_struct5 {t : TypeId} {f0 f1 f2 f3 f4 : Field} {fuel : Nat} {cs : List Value} {x : DataW H × List MemPlace} (ht : P.underlying t = some (.struct #[f0, f1, f2, f3, f4])) (h : DataW.trod enc P w base spare held fuel t cs = some x) :
    ∃ y0 y1 y2 y3 y4 n, x = (.agg [y0.1, y1.1, y2.1, y3.1, y4.1], y0.2 ++ (y1.2 ++ (y2.2 ++ (y3.2 ++ y4.2)))) ∧ cs.length = P.cellsOf t ∧ DataW.trod enc P w base spare held n f0.type ((cs.drop f0.offset).take (P.cellsOf f0.type)) = some y0 ∧
      DataW.trod enc P w base spare held n f1.type ((cs.drop f1.offset).take (P.cellsOf f1.type)) = some y1 ∧ DataW.trod enc P w base spare held n f2.type ((cs.drop f2.offset).take (P.cellsOf f2.type)) = some y2 ∧
      DataW.trod enc P w base spare held n f3.type ((cs.drop f3.offset).take (P.cellsOf f3.type)) = some y3 ∧ DataW.trod enc P w base spare held n f4.type ((cs.drop f4.offset).take (P.cellsOf f4.type)) = some y4 := by
  obtain ⟨xs, n, _, rfl, hl, hlen, hf⟩ := DataW.trod_struct ht h
  match xs, hlen with
  | [y0, y1, y2, y3, y4], _ => exact ⟨y0, y1, y2, y3, y4, n, by simp, hl, by simpa using hf 0 f0 rfl, by simpa using hf 1 f1 rfl, by simpa using hf 2 f2 rfl, by simpa using hf 3 f3 rfl, by simpa using hf 4 f4 rfl⟩
theorem cells_agg5 {t : TypeId} {f0 f1 f2 f3 f4 : Field} {fuel : Nat} {cs : List Value} {x : DataW H × List MemPlace} (hs : P.underlying t = some (.struct #[f0, f1, f2, f3, f4])) (hone : oneCellFields P #[f0, f1, f2, f3, f4] = true) (hC : P.cellsOf t = 5)
    (h : DataW.trod enc P w base spare held fuel t cs = some x) :
    ∃ (c0 c1 c2 c3 c4 : Value) (y0 y1 y2 y3 y4 : DataW H × List MemPlace) (n : Nat), cs = [c0, c1, c2, c3, c4] ∧ x = (.agg [y0.1, y1.1, y2.1, y3.1, y4.1], y0.2 ++ (y1.2 ++ (y2.2 ++ (y3.2 ++ y4.2)))) ∧
      DataW.trod enc P w base spare held n f0.type [c0] = some y0 ∧ DataW.trod enc P w base spare held n f1.type [c1] = some y1 ∧ DataW.trod enc P w base spare held n f2.type [c2] = some y2 ∧ DataW.trod enc P w base spare held n f3.type [c3] = some y3 ∧ DataW.trod enc P w base spare held n f4.type [c4] = some y4 := by
  obtain ⟨y0, y1, y2, y3, y4, n, hx, hl, h0, h1, h2, h3, h4⟩ := trod_struct5 hs h
  obtain ⟨c0, c1, c2, c3, c4, rfl⟩ := list5 (hl.trans hC)
  obtain ⟨o0, k0⟩ := hone_of hone 0 f0 rfl
  obtain ⟨o1, k1⟩ := hone_of hone 1 f1 rfl
  obtain ⟨o2, k2⟩ := hone_of hone 2 f2 rfl
  obtain ⟨o3, k3⟩ := hone_of hone 3 f3 rfl
  obtain ⟨o4, k4⟩ := hone_of hone 4 f4 rfl
  exact ⟨c0, c1, c2, c3, c4, y0, y1, y2, y3, y4, n, rfl, hx, by simpa [o0, k0] using h0, by simpa [o1, k1] using h1, by simpa [o2, k2] using h2, by simpa [o3, k3] using h3, by simpa [o4, k4] using h4⟩
end
/-- Five cells that read as a flow are five numbers, and the datum holds them. -/
theorem flow_cells {H : Type} {enc : TypeId × Value → H} {w : World} {base : Nat} {spare : Nat → Bool} {held : Bool} {fuel : Nat} {cs : List Value} {x : DataW H × List MemPlace}
    (h : DataW.trod enc Tryz.prog w base spare held fuel 35 cs = some x) :
    ∃ s p b r d : Int, cs = [.int .i64 s, .int .i64 p, .int .i64 b, .int .i64 r, .int .i64 d] ∧ x = (.agg [.lit (.int .i64 s), .lit (.int .i64 p), .lit (.int .i64 b), .lit (.int .i64 r), .lit (.int .i64 d)], []) ∧ R64 s ∧ R64 p ∧ R64 b ∧ R64 r ∧ R64 d := by
  obtain ⟨c0, c1, c2, c3, c4, y0, y1, y2, y3, y4, n, rfl, rfl, h0, h1, h2, h3, h4⟩ := cells_agg5 Tryz.underlying35 (by kernel_rfl) cellsFlow h
  obtain ⟨s, e0, rfl, w0⟩ := DataW.trod_int Tryz.underlying3 h0
  obtain ⟨p, e1, rfl, w1⟩ := DataW.trod_int Tryz.underlying3 h1
  obtain ⟨b, e2, rfl, w2⟩ := DataW.trod_int Tryz.underlying3 h2
  obtain ⟨r, e3, rfl, w3⟩ := DataW.trod_int Tryz.underlying3 h3
  obtain ⟨d, e4, rfl, w4⟩ := DataW.trod_int Tryz.underlying3 h4
  simp only [List.cons.injEq, and_true] at e0 e1 e2 e3 e4
  subst e0 e1 e2 e3 e4
  exact ⟨s, p, b, r, d, rfl, rfl, r64_of_wf w0, r64_of_wf w1, r64_of_wf w2, r64_of_wf w3, r64_of_wf w4⟩
theorem gArg : Tryz.prog.globalNamed "towpath/fault.ErrArg" = some 0 := by kernel_rfl
theorem gArgType : (Tryz.prog.globals[0]?).map (·.type) = some 66 := by kernel_rfl
theorem gFull : Tryz.prog.globalNamed "towpath/fault.ErrFull" = some 1 := by kernel_rfl
theorem gFullType : (Tryz.prog.globals[1]?).map (·.type) = some 66 := by kernel_rfl
theorem gLate : Tryz.prog.globalNamed "towpath/fault.ErrLate" = some 2 := by kernel_rfl
theorem gLateType : (Tryz.prog.globals[2]?).map (·.type) = some 66 := by kernel_rfl
theorem gNone : Tryz.prog.globalNamed "towpath/fault.ErrNone" = some 3 := by kernel_rfl
theorem gNoneType : (Tryz.prog.globals[3]?).map (·.type) = some 66 := by kernel_rfl
theorem gSize : Tryz.prog.globalNamed "towpath/fault.ErrSize" = some 4 := by kernel_rfl
theorem gSizeType : (Tryz.prog.globals[4]?).map (·.type) = some 66 := by kernel_rfl
theorem gQuota : Tryz.prog.globalNamed "towpath/fault.ErrQuota" = some 5 := by kernel_rfl
theorem gQuotaType : (Tryz.prog.globals[5]?).map (·.type) = some 66 := by kernel_rfl
theorem star : "*" ++ "errors.errorString" = "*errors.errorString" := by decide
theorem rowErr (u : TypeId) (h : Tryz.prog.typeName? 3 u = some "*errors.errorString") : u = 242 :=
  typeName_ptr_named (nm := "errors.errorString") (by rw [star]; kernel_rfl) (by kernel_rfl) (by decide) u (by rw [star]; exact h)
theorem cellsES : Tryz.prog.cellsOf 263 = 1 := by kernel_rfl
theorem cellsStr : Tryz.prog.cellsOf 9 = 1 := by kernel_rfl
/-- Six sentinels of one type: six pointers. -/
theorem laid_six {P : Program} {n0 n1 n2 n3 n4 n5 nm : String} {x0 x1 x2 x3 x4 x5 : List UInt8} {W : World} {g0 g1 g2 g3 g4 g5 : Nat} {ti tp te ts : TypeId} {ms : Array (String × TypeId)} {f : Field}
    (h : laidMet P [(n0, .iface nm (.ptr (.agg [.lit (.string x0)]))), (n1, .iface nm (.ptr (.agg [.lit (.string x1)]))), (n2, .iface nm (.ptr (.agg [.lit (.string x2)]))), (n3, .iface nm (.ptr (.agg [.lit (.string x3)]))), (n4, .iface nm (.ptr (.agg [.lit (.string x4)]))), (n5, .iface nm (.ptr (.agg [.lit (.string x5)])))] W)
    (hg0 : P.globalNamed n0 = some g0) (ht0 : (P.globals[g0]?).map (·.type) = some ti)
    (hg1 : P.globalNamed n1 = some g1) (ht1 : (P.globals[g1]?).map (·.type) = some ti)
    (hg2 : P.globalNamed n2 = some g2) (ht2 : (P.globals[g2]?).map (·.type) = some ti)
    (hg3 : P.globalNamed n3 = some g3) (ht3 : (P.globals[g3]?).map (·.type) = some ti)
    (hg4 : P.globalNamed n4 = some g4) (ht4 : (P.globals[g4]?).map (·.type) = some ti)
    (hg5 : P.globalNamed n5 = some g5) (ht5 : (P.globals[g5]?).map (·.type) = some ti)
    (hi : P.underlying ti = some (.interface ms)) (hrow : ∀ u, P.typeName? 3 u = some nm → u = tp) (hp : P.underlying tp = some (.pointer te)) (he : P.underlying te = some (.struct #[f])) (hft : f.type = ts) (hfo : f.offset = 0) (hs : P.underlying ts = some .string) (hc : P.cellsOf te = 1) (hcs : P.cellsOf ts = 1) :
    ∃ (a0 a1 a2 a3 a4 a5 : Addr), W.cell? ⟨g0, 0, none⟩ = some (.iface tp (.pointer (some a0))) ∧ W.cell? ⟨g1, 0, none⟩ = some (.iface tp (.pointer (some a1))) ∧ W.cell? ⟨g2, 0, none⟩ = some (.iface tp (.pointer (some a2))) ∧ W.cell? ⟨g3, 0, none⟩ = some (.iface tp (.pointer (some a3))) ∧ W.cell? ⟨g4, 0, none⟩ = some (.iface tp (.pointer (some a4))) ∧ W.cell? ⟨g5, 0, none⟩ = some (.iface tp (.pointer (some a5))) ∧ (∃ c t, W.heap[a0.block]? = some (.cells c t (0, 0))) ∧ (∃ c t, W.heap[a1.block]? = some (.cells c t (0, 0))) ∧ (∃ c t, W.heap[a2.block]? = some (.cells c t (0, 0))) ∧ (∃ c t, W.heap[a3.block]? = some (.cells c t (0, 0))) ∧ (∃ c t, W.heap[a4.block]? = some (.cells c t (0, 0))) ∧ (∃ c t, W.heap[a5.block]? = some (.cells c t (0, 0))) ∧ [a0, a1, a2, a3, a4, a5].Nodup := by
  obtain ⟨ps, ⟨g0', t0', cs0, f0, p0, q0, hg0', ht0', hv0, hd0, ⟨g1', t1', cs1, f1, p1, q1, hg1', ht1', hv1, hd1, ⟨g2', t2', cs2, f2, p2, q2, hg2', ht2', hv2, hd2, ⟨g3', t3', cs3, f3, p3, q3, hg3', ht3', hv3, hd3, ⟨g4', t4', cs4, f4, p4, q4, hg4', ht4', hv4, hd4, ⟨g5', t5', cs5, f5, p5, q5, hg5', ht5', hv5, hd5, _, e5⟩, e4⟩, e3⟩, e2⟩, e1⟩, e0⟩, hnd, hrows⟩ := h
  obtain rfl := Option.some.inj (hg0.symm.trans hg0')
  obtain rfl := Option.some.inj (ht0.symm.trans ht0')
  obtain rfl := Option.some.inj (hg1.symm.trans hg1')
  obtain rfl := Option.some.inj (ht1.symm.trans ht1')
  obtain rfl := Option.some.inj (hg2.symm.trans hg2')
  obtain rfl := Option.some.inj (ht2.symm.trans ht2')
  obtain rfl := Option.some.inj (hg3.symm.trans hg3')
  obtain rfl := Option.some.inj (ht3.symm.trans ht3')
  obtain rfl := Option.some.inj (hg4.symm.trans hg4')
  obtain rfl := Option.some.inj (ht4.symm.trans ht4')
  obtain rfl := Option.some.inj (hg5.symm.trans hg5')
  obtain rfl := Option.some.inj (ht5.symm.trans ht5')
  subst e5 e4 e3 e2 e1 e0
  obtain ⟨l0⟩ := cs0
  obtain ⟨l1⟩ := cs1
  obtain ⟨l2⟩ := cs2
  obtain ⟨l3⟩ := cs3
  obtain ⟨l4⟩ := cs4
  obtain ⟨l5⟩ := cs5
  have ok0 : ∀ u v, l0 = [.iface u v] → Value.okWide P W .any 0 u v := fun u v e => by
    subst e
    exact (hrows g0 0 (by simp [MemPlace.row])).2 u v (by simpa using World.var?_cell hg0' hv0 0)
  have ok1 : ∀ u v, l1 = [.iface u v] → Value.okWide P W .any 0 u v := fun u v e => by
    subst e
    exact (hrows g1 0 (by simp [MemPlace.row])).2 u v (by simpa using World.var?_cell hg1' hv1 0)
  have ok2 : ∀ u v, l2 = [.iface u v] → Value.okWide P W .any 0 u v := fun u v e => by
    subst e
    exact (hrows g2 0 (by simp [MemPlace.row])).2 u v (by simpa using World.var?_cell hg2' hv2 0)
  have ok3 : ∀ u v, l3 = [.iface u v] → Value.okWide P W .any 0 u v := fun u v e => by
    subst e
    exact (hrows g3 0 (by simp [MemPlace.row])).2 u v (by simpa using World.var?_cell hg3' hv3 0)
  have ok4 : ∀ u v, l4 = [.iface u v] → Value.okWide P W .any 0 u v := fun u v e => by
    subst e
    exact (hrows g4 0 (by simp [MemPlace.row])).2 u v (by simpa using World.var?_cell hg4' hv4 0)
  have ok5 : ∀ u v, l5 = [.iface u v] → Value.okWide P W .any 0 u v := fun u v e => by
    subst e
    exact (hrows g5 0 (by simp [MemPlace.row])).2 u v (by simpa using World.var?_cell hg5' hv5 0)
  obtain ⟨a0, s0, rfl, _, _, _, rfl⟩ := errorString_of_trod hi hrow hp he hft hfo hs hc hcs hd0 ok0
  obtain ⟨a1, s1, rfl, _, _, _, rfl⟩ := errorString_of_trod hi hrow hp he hft hfo hs hc hcs hd1 ok1
  obtain ⟨a2, s2, rfl, _, _, _, rfl⟩ := errorString_of_trod hi hrow hp he hft hfo hs hc hcs hd2 ok2
  obtain ⟨a3, s3, rfl, _, _, _, rfl⟩ := errorString_of_trod hi hrow hp he hft hfo hs hc hcs hd3 ok3
  obtain ⟨a4, s4, rfl, _, _, _, rfl⟩ := errorString_of_trod hi hrow hp he hft hfo hs hc hcs hd4 ok4
  obtain ⟨a5, s5, rfl, _, _, _, rfl⟩ := errorString_of_trod hi hrow hp he hft hfo hs hc hcs hd5 ok5
  obtain ⟨c0, t0, hb0⟩ := (hrows a0.block a0.off (by simp [MemPlace.row])).1
  obtain ⟨c1, t1, hb1⟩ := (hrows a1.block a1.off (by simp [MemPlace.row])).1
  obtain ⟨c2, t2, hb2⟩ := (hrows a2.block a2.off (by simp [MemPlace.row])).1
  obtain ⟨c3, t3, hb3⟩ := (hrows a3.block a3.off (by simp [MemPlace.row])).1
  obtain ⟨c4, t4, hb4⟩ := (hrows a4.block a4.off (by simp [MemPlace.row])).1
  obtain ⟨c5, t5, hb5⟩ := (hrows a5.block a5.off (by simp [MemPlace.row])).1
  refine ⟨a0, a1, a2, a3, a4, a5, by simpa using World.var?_cell hg0' hv0 0, by simpa using World.var?_cell hg1' hv1 0, by simpa using World.var?_cell hg2' hv2 0, by simpa using World.var?_cell hg3' hv3 0, by simpa using World.var?_cell hg4' hv4 0, by simpa using World.var?_cell hg5' hv5 0, ⟨_, _, hb0⟩, ⟨_, _, hb1⟩, ⟨_, _, hb2⟩, ⟨_, _, hb3⟩, ⟨_, _, hb4⟩, ⟨_, _, hb5⟩, ?_⟩
  rw [List.nodup_iff_pairwise_ne]
  simp only [List.pairwise_cons, List.mem_cons, List.not_mem_nil, or_false, false_implies, implies_true, List.Pairwise.nil, and_true, forall_eq_or_imp, forall_eq]
  refine ⟨⟨?_, ?_, ?_, ?_, ?_⟩, ⟨?_, ?_, ?_, ?_⟩, ⟨?_, ?_, ?_⟩, ⟨?_, ?_⟩, ?_⟩ <;> (rintro rfl; simp [MemPlace.row] at hnd)
/-- The package's errors, as they are laid. -/
def sixL : List (String × DataW Unit) := [("towpath/fault.ErrArg", Rows.laid_towpath_fault_ErrArg), ("towpath/fault.ErrFull", Rows.laid_towpath_fault_ErrFull), ("towpath/fault.ErrLate", Rows.laid_towpath_fault_ErrLate), ("towpath/fault.ErrNone", Rows.laid_towpath_fault_ErrNone), ("towpath/fault.ErrSize", Rows.laid_towpath_fault_ErrSize), ("towpath/fault.ErrQuota", Rows.laid_towpath_fault_ErrQuota)]
set_option maxRecDepth 100000 in
theorem snt_of {W : World} (h : laidMetH Tryz.prog sixL W) : ∃ a, Snt W a := by
  rw [MakeChecks.laidMetH_plain _ _ _ (by kernel_rfl)] at h
  obtain ⟨a0, a1, a2, a3, a4, a5, c0, c1, c2, c3, c4, c5, h0, h1, h2, h3, h4, h5, hn⟩ := laid_six h gArg gArgType gFull gFullType gLate gLateType gNone gNoneType gSize gSizeType gQuota gQuotaType Tryz.underlying66 rowErr Tryz.underlying242 Tryz.underlying263 rfl rfl Tryz.underlying9 cellsES cellsStr
  rw [List.nodup_iff_pairwise_ne] at hn
  simp only [List.pairwise_cons, List.mem_cons, List.not_mem_nil, or_false, false_implies, implies_true, List.Pairwise.nil, and_true, forall_eq_or_imp, forall_eq] at hn
  obtain ⟨⟨n1, n2, n3, n4, n5⟩, ⟨n6, n7, n8, n9⟩, ⟨n10, n11, n12⟩, ⟨n13, n14⟩, n15⟩ := hn
  refine ⟨fun g => if g = 0 then a0 else if g = 1 then a1 else if g = 2 then a2 else if g = 3 then a3 else if g = 4 then a4 else a5, ?_, ?_, ?_⟩
  · intro g hg
    simp only [sents, List.mem_cons, List.not_mem_nil, or_false] at hg
    rcases hg with rfl | rfl | rfl | rfl | rfl | rfl
    · exact c0
    · exact c1
    · exact c2
    · exact c3
    · exact c4
    · exact c5
  · intro g hg
    simp only [sents, List.mem_cons, List.not_mem_nil, or_false] at hg
    rcases hg with rfl | rfl | rfl | rfl | rfl | rfl
    · exact h0
    · exact h1
    · exact h2
    · exact h3
    · exact h4
    · exact h5
  · intro g hg g' hg' hne
    simp only [sents, List.mem_cons, List.not_mem_nil, or_false] at hg hg'
    rcases hg with rfl | rfl | rfl | rfl | rfl | rfl <;> rcases hg' with rfl | rfl | rfl | rfl | rfl | rfl <;> first | exact absurd rfl hne | assumption | exact Ne.symm (by assumption)
theorem size_of_cell {W : World} {b o : Nat} {v : Value} (h : W.cell? ⟨b, o, none⟩ = some v) : b < W.heap.size := World.block_lt_of_cell? _ _ h
end Go.Proofs.YtcnmajndackohaaGreatDoor
/-
  A row of flows of the call's own, known whole; what lend does.
-/
namespace Go.Proofs.YtcnmajndackohaaGreatDoor
open Go.RowKit
/-- Block g is a row of just the flows L. -/
def Blk (w : World) (g : Nat) (L : List Fl) : Prop := w.heap[g]? = some (.cells (fcells L).toArray 35 (0, 0))
theorem Blk.lt {w : World} {g : Nat} {L : List Fl} (h : Blk w g L) : g < w.heap.size := lt_of_heap h
theorem Blk.cell {w : World} {g : Nat} {L : List Fl} (h : Blk w g L) (j : Nat) (u : Value) (hu : (fcells L)[j]? = some u) : w.cell? ⟨g, j, none⟩ = some u := by
  have h' : w.heap[g]? = some (.cells (fcells L).toArray 35 (0, 0)) := h
  rw [cell_of_row w g j _ _ _ h']
  simpa using hu
theorem Blk.lies {w : World} {g : Nat} {L : List Fl} (h : Blk w g L) : Lies w g 0 L := by
  refine ⟨h.lt, ?_, ?_, ?_, ?_, ?_⟩
  all_goals intro k hk
  all_goals rw [Nat.zero_add]
  · exact h.cell _ _ (fcells_at L k hk).1
  · exact h.cell _ _ (fcells_at L k hk).2.1
  · exact h.cell _ _ (fcells_at L k hk).2.2.1
  · exact h.cell _ _ (fcells_at L k hk).2.2.2.1
  · exact h.cell _ _ (fcells_at L k hk).2.2.2.2
theorem Blk.frozen {w : World} {g : Nat} {L : List Fl} (h : Blk w g L) (o : Nat) : w.frozen? ⟨g, o, none⟩ = false := by
  have h' : w.heap[g]? = some (.cells (fcells L).toArray 35 (0, 0)) := h
  simp [World.frozen?, h']
theorem Blk.below {w w' : World} {g : Nat} {L : List Fl} (h : Blk w g L) (hb : Below w.heap.size w w') : Blk w' g L := (hb.block g h.lt).trans h
theorem row_set {w : World} {g o : Nat} {cs : Array Value} {t : TypeId} {v : Value} (h : w.heap[g]? = some (.cells cs t (0, 0))) : (w.setCell ⟨g, o, none⟩ v).heap[g]? = some (.cells (cs.setIfInBounds o v) t (0, 0)) := by
  rw [setCell_eq_setRow w g o cs t (0, 0) v h]
  exact setRow_heap w g cs _ t (0, 0) h
theorem Blk.store {w : World} {g k : Nat} {L : List Fl} {x : Fl} (h : Blk w g L) (hk : k < L.length) :
    Blk (((((w.setCell ⟨g, k * 5, none⟩ (.int .i64 x.s)).setCell ⟨g, k * 5 + 1, none⟩ (.int .i64 x.p)).setCell ⟨g, k * 5 + 2, none⟩ (.int .i64 x.b)).setCell ⟨g, k * 5 + 3, none⟩ (.int .i64 x.r)).setCell ⟨g, k * 5 + 4, none⟩ (.int .i64 x.d)) g (L.set k x) := by
  have h' : w.heap[g]? = some (.cells (fcells L).toArray 35 (0, 0)) := h
  have := row_set (o := k * 5 + 4) (v := .int .i64 x.d) (row_set (o := k * 5 + 3) (v := .int .i64 x.r) (row_set (o := k * 5 + 2) (v := .int .i64 x.b) (row_set (o := k * 5 + 1) (v := .int .i64 x.p) (row_set (o := k * 5) (v := .int .i64 x.s) h'))))
  unfold Blk
  rw [this, fcells_set L x k hk]
  simp
theorem below_store {w0 w : World} {g k : Nat} {x : Fl} (h : Below w0.heap.size w0 w) (hg : w0.heap.size ≤ g) :
    Below w0.heap.size w0 (((((w.setCell ⟨g, k * 5, none⟩ (.int .i64 x.s)).setCell ⟨g, k * 5 + 1, none⟩ (.int .i64 x.p)).setCell ⟨g, k * 5 + 2, none⟩ (.int .i64 x.b)).setCell ⟨g, k * 5 + 3, none⟩ (.int .i64 x.r)).setCell ⟨g, k * 5 + 4, none⟩ (.int .i64 x.d)) :=
  ((((h.setCell hg _).setCell hg _).setCell hg _).setCell hg _).setCell hg _
def zf : Fl := ⟨0, 0, 0, 0, 0⟩
theorem made_zero (n : Nat) : (madeCells (Value.cells (.agg #[.int .i64 0, .int .i64 0, .int .i64 0, .int .i64 0, .int .i64 0])) (n * 5)).toList = fcells (List.replicate n zf) := by
  apply List.ext_getElem?
  intro j
  have hl : (fcells (List.replicate n zf)).length = n * 5 := by rw [fcells_length]; simp
  by_cases hj : j < n * 5
  · have e := fcells_at (List.replicate n zf) (j / 5) (by simp; omega)
    simp only [List.getElem_replicate] at e
    have hm : (madeCells (Value.cells (.agg #[.int .i64 0, .int .i64 0, .int .i64 0, .int .i64 0, .int .i64 0])) (n * 5)).toList[j]? = some (.int .i64 0) := by
      simp [madeCells, Value.cells, hj]
      have : j % 5 = 0 ∨ j % 5 = 1 ∨ j % 5 = 2 ∨ j % 5 = 3 ∨ j % 5 = 4 := by omega
      rcases this with h | h | h | h | h <;> simp [h]
    rw [hm]
    have : j = j / 5 * 5 ∨ j = j / 5 * 5 + 1 ∨ j = j / 5 * 5 + 2 ∨ j = j / 5 * 5 + 3 ∨ j = j / 5 * 5 + 4 := by omega
    rcases this with h | h | h | h | h
    · rw [h]; exact e.1.symm
    · rw [h]; exact e.2.1.symm
    · rw [h]; exact e.2.2.1.symm
    · rw [h]; exact e.2.2.2.1.symm
    · rw [h]; exact e.2.2.2.2.symm
  · rw [List.getElem?_eq_none (by simp [madeCells]; omega), List.getElem?_eq_none (by omega)]
theorem infoFl : (Tryz.prog.info? 35).map (fun i => (i.zero, i.size, i.bytes)) = some (some (.agg #[.int .i64 0, .int .i64 0, .int .i64 0, .int .i64 0, .int .i64 0]), 5, 40) := by kernel_rfl
theorem run_copy5 (w : World) (dT sT ty elem : TypeId) (g dLen dCap : Nat) (a : Addr) (sLen sCap : Nat) (cur : Array Value) (t : TypeId) (cs : List Value) (P : Program)
    (hu : P.underlying dT = some (.slice elem)) (hs : (P.info? elem).map (·.size) = some 5)
    (hg : w.heap[g]? = some (.cells cur t (0, 0))) (hn : cs.length = sLen * 5) (hle : sLen ≤ dLen)
    (hsrc : ∀ j v, cs[j]? = some v → w.cell? (a.add j) = some v) (hfit : cs.length ≤ cur.size) (h1 : ∀ v ∈ cs, v.oneCell' = true) :
    (Builtin.copy_ #[dT, sT] ty #[.slice (some ⟨g, 0, none⟩) dLen dCap, .slice (some a) sLen sCap]).run P w =
      .ok (goInt sLen) (w.setRow g (cs ++ cur.toList.drop cs.length).toArray) := by
  have hl := run_loadCells_list (P := P) w a cs hsrc
  have hst := run_storeCells_at P g 0 t cs 0 cur w hg (by simpa using hfit) h1
  have hmin : Nat.min sLen dLen = sLen := Nat.min_eq_left hle
  cases hq : P.info? elem with
  | none => simp [hq] at hs
  | some i =>
    have hi : i.size = 5 := by simpa [hq] using hs
    rw [hn] at hl
    simp at hst
    simp [Builtin.copy_, run_underlying hu, Builtin.lenOf, Builtin.firstCells, sizeOf, typeInfo, hq, hi, hmin, hl, hst]
/-- What lies behind a list that is handed in. -/
def spare (k : Nat) : List Fl := (List.range k).map fun (i : Nat) => ⟨77, 0, 0, 0, (i : Int)⟩
theorem spare_succ (k : Nat) : spare (k + 1) = spare k ++ [⟨77, 0, 0, 0, (k : Int)⟩] := by unfold spare; rw [List.range_succ, List.map_append]; rfl
theorem spare_len (k : Nat) : (spare k).length = k := by simp [spare]
/-- The row that is lent, behind k rounds. -/
def lentTo (l : List Fl) (k : Nat) : List Fl := l ++ (spare k ++ List.replicate (8 - k) zf)
theorem lentTo_len (l : List Fl) (k : Nat) (h : k ≤ 8) : (lentTo l k).length = l.length + 8 := by unfold lentTo; simp [spare_len]; omega
theorem lentTo_set (l : List Fl) (k : Nat) (h : k < 8) : (lentTo l k).set (l.length + k) ⟨77, 0, 0, 0, (k : Int)⟩ = lentTo l (k + 1) := by
  unfold lentTo
  rw [List.set_append_right _ _ (by omega), show l.length + k - l.length = k by omega, List.set_append_right _ _ (by rw [spare_len]; omega), spare_len, Nat.sub_self, spare_succ]
  rw [show 8 - k = (8 - (k + 1)) + 1 by omega, List.replicate_succ]
  simp
theorem lentTo_eight (l : List Fl) : lentTo l 8 = l ++ spare 8 := by unfold lentTo; simp
theorem fcells_one (l : List Fl) : ∀ v ∈ fcells l, v.oneCell' = true := by
  induction l with
  | nil => intro v hv; simp [fcells] at hv
  | cons f l ih =>
    intro v hv
    simp only [fcells, List.mem_cons] at hv
    rcases hv with h | h | h | h | h | h
    · subst h; rfl
    · subst h; rfl
    · subst h; rfl
    · subst h; rfl
    · subst h; rfl
    · exact ih v h
theorem lies_src {w : World} {b o : Nat} {l : List Fl} (h : Lies w b o l) : ∀ j v, (fcells l)[j]? = some v → w.cell? ((⟨b, o, none⟩ : Addr).add j) = some v := by
  intro j v hv
  have hj : j < l.length * 5 := by
    rcases Nat.lt_or_ge j (l.length * 5) with g | g
    · exact g
    · rw [List.getElem?_eq_none (by rw [fcells_length]; exact g)] at hv; cases hv
  have hadd : (⟨b, o, none⟩ : Addr).add j = ⟨b, o + j, none⟩ := by unfold Addr.add; split <;> simp_all
  rw [hadd]
  have hk : j / 5 < l.length := by omega
  have e := fcells_at l (j / 5) hk
  have : j = j / 5 * 5 ∨ j = j / 5 * 5 + 1 ∨ j = j / 5 * 5 + 2 ∨ j = j / 5 * 5 + 3 ∨ j = j / 5 * 5 + 4 := by omega
  rcases this with q | q | q | q | q
  · have hv' := hv; rw [q, e.1] at hv'; rw [q, ← hv']; exact h.c0 _ hk
  · have hv' := hv; rw [q, e.2.1] at hv'; rw [q, ← hv', ← Nat.add_assoc]; exact h.c1 _ hk
  · have hv' := hv; rw [q, e.2.2.1] at hv'; rw [q, ← hv', ← Nat.add_assoc]; exact h.c2 _ hk
  · have hv' := hv; rw [q, e.2.2.2.1] at hv'; rw [q, ← hv', ← Nat.add_assoc]; exact h.c3 _ hk
  · have hv' := hv; rw [q, e.2.2.2.2] at hv'; rw [q, ← hv', ← Nat.add_assoc]; exact h.c4 _ hk
end Go.Proofs.YtcnmajndackohaaGreatDoor
/-
  What lend does: a row of the call's own, with the flows and eight cells behind them.
-/
namespace Go.Proofs.YtcnmajndackohaaGreatDoor
open Go.RowKit
theorem blk_of_made {w : World} {base : Nat} {v : Value} {n : Nat} {g : Nat} (hv : v = .slice (some ⟨g, 0, none⟩) n n) (h : w.ownsRow base 35 5 v n (madeCells (Value.cells (.agg #[.int .i64 0, .int .i64 0, .int .i64 0, .int .i64 0, .int .i64 0])) (n * 5)).toList) : Blk w g (List.replicate n zf) := by
  rcases h.2 with ⟨e, _⟩ | ⟨g', cap, cur, e, _, hc, _, _, hs, ht⟩
  · rw [hv] at e; cases e
  · rw [hv] at e
    simp only [Value.slice.injEq, Option.some.injEq, Addr.mk.injEq] at e
    obtain ⟨⟨rfl, _, _⟩, _, rfl⟩ := e
    rw [made_zero] at ht
    unfold Blk
    rw [hc]
    congr 2
    rw [← ht, List.take_of_length_le (by simp [hs])]
theorem zeros_cut (n : Nat) : (fcells (List.replicate (n + 8) zf)).drop (n * 5) = fcells (List.replicate 8 zf) := by
  have e : List.replicate (n + 8) zf = List.replicate n zf ++ List.replicate 8 zf := by rw [List.replicate_append_replicate]
  rw [e, fcells_append, List.drop_append_of_le_length (by rw [fcells_length]; simp), List.drop_of_length_le (by rw [fcells_length]; simp)]
  rfl
theorem blk_lent {w : World} {g n : Nat} {l : List Fl} (hn : l.length = n) (h : Blk w g (List.replicate (n + 8) zf)) : Blk (w.setRow g (fcells l ++ (fcells (List.replicate (n + 8) zf)).toArray.toList.drop (fcells l).length).toArray) g (lentTo l 0) := by
  have h' : w.heap[g]? = some (.cells (fcells (List.replicate (n + 8) zf)).toArray 35 (0, 0)) := h
  have hc : fcells l ++ (fcells (List.replicate (n + 8) zf)).toArray.toList.drop (fcells l).length = fcells (lentTo l 0) := by
    rw [fcells_length, hn]
    show fcells l ++ (fcells (List.replicate (n + 8) zf)).drop (n * 5) = _
    rw [zeros_cut]
    unfold lentTo
    rw [fcells_append]
    rfl
  unfold Blk
  rw [setRow_heap w g _ _ _ _ h', hc]
set_option maxRecDepth 100000 in
set_option maxHeartbeats 4000000 in
theorem lend_core (a : Option Addr) (c : Nat) (l : List Fl) (w : World) (hl : l.length * 40 ≤ 140737488355328)
    (hC : ∀ w1, Blk w1 w.heap.size (List.replicate (l.length + 8) zf) → Below w.heap.size w w1 → ∃ w2, (∀ ty, (Builtin.copy_ #[37, 37] ty #[.slice (some ⟨w.heap.size, 0, none⟩) (l.length + 8) (l.length + 8), .slice a l.length c]).run Tryz.prog w1 = .ok (goInt l.length) w2) ∧ Blk w2 w.heap.size (lentTo l 0) ∧ Below w.heap.size w w2) :
    Calls Tryz.prog 31 #[.slice a l.length c] w fun e w' => e = .returned (.slice (some ⟨w.heap.size, 0, none⟩) (l.length + 8) (l.length + 8)) ∧ Blk w' w.heap.size (l ++ spare 8) ∧ Below w.heap.size w w' := by
  have HC := hide hC
  clear hC
  obtain ⟨i0, hi0, hz0, hz1, hz2⟩ := info_parts infoFl
  have HI := hide hi0
  have HZ0 := hide hz0
  have HZ1 := hide hz1
  have HZ2 := hide hz2
  clear hi0 hz0 hz1 hz2
  generalize hn : l.length = n at *
  have HN := hide hn
  have hn1 : (n : Int) ≤ 140737488355328 := by omega
  clear hn
  go_enter Tryz.func31, Tryz.ntmps31
  go_wp2_with (at_make; refine wpList_make_full _ (by rfl) _ _ 37 (by rfl) w.heap.size 35 i0 _ 5 Tryz.underlying37 (unhide HI) (unhide HZ0) (unhide HZ1) .i64 .i64 _ _ (n + 8) (by rfl) (by rfl) (by omega) (by omega) (by rw [unhide HZ2]; omega) (by unfold maxLen; omega) (Nat.le_refl _) ?_)
  intro w1 hown hgrow
  have HB1 := hide (blk_of_made rfl hown)
  have HBel1 := hide ((Below.refl w.heap.size w).grown hgrow (Nat.le_refl _) (fun k hk => by cases hk))
  clear hown hgrow
  obtain ⟨w2, hcopy, hb2, hbel2⟩ := unhide HC _ (unhide HB1) (unhide HBel1)
  have HB2 := hide hb2
  have HBel2 := hide hbel2
  clear hb2 hbel2 HB1 HBel1 HC
  generalize hg : w.heap.size = g at *
  have HGd := hide hg
  clear hg
  go_wp2_with fail
  clear hcopy
  go_loopw [4] (fun i wr => ∃ k : Nat, k ≤ 8 ∧ i = .int .i64 k ∧ Blk wr g (lentTo l k) ∧ Below g w wr) (fun i _ => 8 - (intOf i).toNat)
  case atStart => exact ⟨0, Nat.zero_le _, rfl, unhide HB2, unhide HBel2⟩
  case round =>
    obtain ⟨k, hk, rfl, hblk, hbel⟩ := hrel
    by_cases hlt : k < 8
    · have HBk := hide hblk
      have HBl := hide hbel
      have hll : n + k < (lentTo l k).length := by rw [lentTo_len l k hk, unhide HN]; omega
      have q0 := hblk.lies.c0 (n + k) hll
      have q1 := hblk.lies.c1 (n + k) hll
      have q2 := hblk.lies.c2 (n + k) hll
      have q3 := hblk.lies.c3 (n + k) hll
      have q4 := hblk.lies.c4 (n + k) hll
      rw [Nat.zero_add] at q0 q1 q2 q3 q4
      have z := hblk.frozen
      have q5 := hblk.lt
      generalize (lentTo l k)[n + k] = fo at *
      clear hblk hbel
      go_wp2_with fail
      have hst := (unhide HBk).store (x := ⟨77, 0, 0, 0, (k : Int)⟩) hll
      have hset := lentTo_set l k hlt
      rw [unhide HN] at hset
      rw [hset] at hst
      have hbs := fun (h : Below w.heap.size w wr) => below_store (k := n + k) (x := ⟨77, 0, 0, 0, (k : Int)⟩) h (Nat.le_of_eq (unhide HGd))
      rw [unhide HGd] at hbs
      refine ⟨⟨k + 1, by omega, by go_num, hst, hbs (unhide HBl)⟩, by simp [intOf]; omega⟩
    · have hk8 : k = 8 := by omega
      subst hk8
      have HBk := hide hblk
      have HBl := hide hbel
      clear hblk hbel
      go_wp2_with fail
      go_ret
      refine ⟨?_, ?_, ?_⟩
      · rw [unhide HGd]; rfl
      · rw [unhide HGd, ← lentTo_eight]; exact unhide HBk
      · rw [unhide HGd]; exact unhide HBl
theorem flowSize : (Tryz.prog.info? 35).map (·.size) = some 5 := by kernel_rfl
theorem lend_some (b o c : Nat) (l : List Fl) (w : World) (hw : Lies w b o l) (hl : l.length * 40 ≤ 140737488355328) :
    Calls Tryz.prog 31 #[.slice (some ⟨b, o, none⟩) l.length c] w fun e w' => e = .returned (.slice (some ⟨w.heap.size, 0, none⟩) (l.length + 8) (l.length + 8)) ∧ Blk w' w.heap.size (l ++ spare 8) ∧ Below w.heap.size w w' := by
  refine lend_core (some ⟨b, o, none⟩) c l w hl fun w1 hb hbel => ⟨_, fun ty => run_copy5 w1 _ _ ty 35 w.heap.size (l.length + 8) (l.length + 8) ⟨b, o, none⟩ l.length c _ _ (fcells l) Tryz.prog Tryz.underlying37 flowSize hb (fcells_length l) (by omega) (lies_src (hw.below hbel)) ?_ (fcells_one l), blk_lent rfl hb, below_setRow hbel (Nat.le_refl _) _⟩
  show (fcells l).length ≤ (fcells (List.replicate (l.length + 8) zf)).length
  rw [fcells_length, fcells_length, List.length_replicate]; omega
theorem run_copy_zero (w : World) (dT sT ty elem : TypeId) (g : Addr) (a : Option Addr) (dLen dCap c : Nat) (P : Program) (hu : P.underlying dT = some (.slice elem)) (hs : (P.info? elem).map (·.size) = some 5) :
    (Builtin.copy_ #[dT, sT] ty #[.slice (some g) dLen dCap, .slice a 0 c]).run P w = .ok (goInt 0) w := by
  cases hq : P.info? elem with
  | none => simp [hq] at hs
  | some i =>
    have hi : i.size = 5 := by simpa [hq] using hs
    have hm : Nat.min 0 dLen = 0 := Nat.zero_min _
    cases a with
    | none => simp [Builtin.copy_, run_underlying hu, Builtin.lenOf, Builtin.firstCells, sizeOf, typeInfo, hq, storeCells]
    | some a => simp [Builtin.copy_, run_underlying hu, Builtin.lenOf, Builtin.firstCells, sizeOf, typeInfo, hq, hm, loadCells, loadCellsFrom, storeCells]
theorem lend_nil (a : Option Addr) (c : Nat) (w : World) :
    Calls Tryz.prog 31 #[.slice a 0 c] w fun e w' => e = .returned (.slice (some ⟨w.heap.size, 0, none⟩) (0 + 8) (0 + 8)) ∧ Blk w' w.heap.size ([] ++ spare 8) ∧ Below w.heap.size w w' :=
  lend_core a c [] w (by simp) fun w1 hb hbel => ⟨w1, fun ty => run_copy_zero w1 _ _ ty 35 _ a _ _ c Tryz.prog Tryz.underlying37 flowSize, hb, hbel⟩
theorem lend_F (v : Value) (l : List Fl) (w : World) (hw : Fls w v l) (hl : l.length * 40 ≤ 140737488355328) :
    Calls Tryz.prog 31 #[v] w fun e w' => e = .returned (.slice (some ⟨w.heap.size, 0, none⟩) (l.length + 8) (l.length + 8)) ∧ Blk w' w.heap.size (l ++ spare 8) ∧ Below w.heap.size w w' := by
  rcases hw with ⟨rfl, a, c, rfl⟩ | ⟨b, o, c, rfl, h⟩
  · exact lend_nil a c w
  · exact lend_some b o c l w h hl
end Go.Proofs.YtcnmajndackohaaGreatDoor
/-
  A play of towpathkeep's: a line, the flows that ever were, what was sent, what has gone; what runs does.
-/
namespace Go.Proofs.YtcnmajndackohaaGreatDoor
open Go.RowKit
theorem gcells_append (l m : List Pk) : gcells (l ++ m) = gcells l ++ gcells m := by
  induction l with
  | nil => rfl
  | cons p l ih => simp only [List.cons_append, gcells, ih, List.append_assoc]
/-- How a play stands. -/
structure Pst where
  x : Ln
  fl : List Fl
  sent : List (List Int)
  other : List Int
  gone : List Pk
def icells (l : List Int) : List Value := l.map fun (k : Int) => .int .i64 k
end Go.Proofs.YtcnmajndackohaaGreatDoor
/-
  The library's contracts, laid at this program.
-/
namespace Go.Proofs
open Go.Shelf
def Tryz.lays189_ren : Go.Shelf.Ren := ⟨fun | 189 => 89 | 125 => 115 | 257 => 114 | 128 => 134 | 129 => 135 | 294 => 125 | 295 => 126 | 296 => 127 | 297 => 128 | 298 => 129 | 299 => 130 | 216 => 131 | 300 => 132 | 301 => 133 | 328 => 142 | 329 => 143 | 330 => 144 | 331 => 145 | 332 => 146 | 215 => 147 | 343 => 153 | n => n, fun | 28 => 27 | 3 => 3 | 46 => 190 | 0 => 0 | 51 => 213 | 53 => 215 | 4 => 4 | 183 => 205 | 182 => 204 | 131 => 210 | 5 => 5 | 9 => 9 | 218 => 227 | 222 => 231 | 228 => 238 | 229 => 150 | n => n, fun | n => n⟩
theorem Tryz.lays189 : Go.Proofs.Lays.n189 Tryz.prog Tryz.lays189_ren := {
  mixed := by kernel_rfl
  f125 := Tryz.func115.trans (congrArg some (by kernel_rfl))
  f128 := Tryz.func134.trans (congrArg some (by kernel_rfl))
  f129 := Tryz.func135.trans (congrArg some (by kernel_rfl))
  f189 := Tryz.func89.trans (congrArg some (by kernel_rfl))
  f215 := Tryz.func147.trans (congrArg some (by kernel_rfl))
  f216 := Tryz.func131.trans (congrArg some (by kernel_rfl))
  f257 := Tryz.func114.trans (congrArg some (by kernel_rfl))
  f294 := Tryz.func125.trans (congrArg some (by kernel_rfl))
  f295 := Tryz.func126.trans (congrArg some (by kernel_rfl))
  f296 := Tryz.func127.trans (congrArg some (by kernel_rfl))
  f297 := Tryz.func128.trans (congrArg some (by kernel_rfl))
  f298 := Tryz.func129.trans (congrArg some (by kernel_rfl))
  f299 := Tryz.func130.trans (congrArg some (by kernel_rfl))
  f300 := Tryz.func132.trans (congrArg some (by kernel_rfl))
  f301 := Tryz.func133.trans (congrArg some (by kernel_rfl))
  f328 := Tryz.func142.trans (congrArg some (by kernel_rfl))
  f329 := Tryz.func143.trans (congrArg some (by kernel_rfl))
  f330 := Tryz.func144.trans (congrArg some (by kernel_rfl))
  f331 := Tryz.func145.trans (congrArg some (by kernel_rfl))
  f332 := Tryz.func146.trans (congrArg some (by kernel_rfl))
  f343 := Tryz.func153.trans (congrArg some (by kernel_rfl))
  t0 := Tryz.underlying0
  a0 := Tryz.isAgg0
  z0 := Tryz.sizeOf0
  v0 := Tryz.zeroValue0
  t3 := Tryz.underlying3
  a3 := Tryz.isAgg3
  z3 := Tryz.sizeOf3
  v3 := Tryz.zeroValue3
  t4 := Tryz.underlying4
  a4 := Tryz.isAgg4
  z4 := Tryz.sizeOf4
  v4 := Tryz.zeroValue4
  t5 := Tryz.underlying5
  a5 := Tryz.isAgg5
  z5 := Tryz.sizeOf5
  v5 := Tryz.zeroValue5
  t9 := Tryz.underlying9
  a9 := Tryz.isAgg9
  z9 := Tryz.sizeOf9
  v9 := Tryz.zeroValue9
  t28 := Tryz.underlying27
  a28 := Tryz.isAgg27
  z28 := Tryz.sizeOf27
  v28 := Tryz.zeroValue27
  t46 := Tryz.underlying190
  a46 := Tryz.isAgg190
  z46 := Tryz.sizeOf190
  v46 := Tryz.zeroValue190
  t51 := Tryz.underlying213
  a51 := Tryz.isAgg213
  z51 := Tryz.sizeOf213
  v51 := Tryz.zeroValue213
  t53 := Tryz.underlying215
  a53 := Tryz.isAgg215
  z53 := Tryz.sizeOf215
  v53 := Tryz.zeroValue215
  t131 := Tryz.underlying210
  a131 := Tryz.isAgg210
  z131 := Tryz.sizeOf210
  v131 := Tryz.zeroValue210
  t182 := Tryz.underlying204
  a182 := Tryz.isAgg204
  z182 := Tryz.sizeOf204
  v182 := Tryz.zeroValue204
  t183 := Tryz.underlying205
  a183 := Tryz.isAgg205
  z183 := Tryz.sizeOf205
  v183 := Tryz.zeroValue205
  t218 := Tryz.underlying227
  a218 := Tryz.isAgg227
  z218 := Tryz.sizeOf227
  v218 := Tryz.zeroValue227
  t222 := Tryz.underlying231
  a222 := Tryz.isAgg231
  z222 := Tryz.sizeOf231
  v222 := Tryz.zeroValue231
  t228 := Tryz.underlying238
  a228 := Tryz.isAgg238
  z228 := Tryz.sizeOf238
  v228 := Tryz.zeroValue238
  t229 := Tryz.underlying150
  a229 := Tryz.isAgg150
  z229 := Tryz.sizeOf150
  v229 := Tryz.zeroValue150 }
open Go.Sort Go.RowKit in
theorem Tryz.slices_Sort_int (blk off cap : Nat) (zs : List Int) (w : World) (hH : Holds (Value.int .i64) w blk off zs.toArray) (hblk : blk < w.heap.size) (hsz : zs.length < 4611686018427387904) :
    Calls Tryz.prog 89 #[.slice (some ⟨blk, off, none⟩) zs.length cap] w fun e w' =>
      e = .returned (.tuple #[]) ∧ ∃ n os, w' = grow (putRow (Value.int .i64) (Sort.ahead w n) blk off (zs.mergeSort fun x y => decide (x ≤ y)).toArray) os := Any.slices_Sort_int Tryz.lays189 blk off cap zs w hH hblk hsz
open Go.RowKit Go.Sort in
theorem Tryz.slices_Sort_int_none (p : Option Addr) (cap : Nat) (w : World) :
    Calls Tryz.prog 89 #[.slice p 0 cap] w fun e w' => e = .returned (.tuple #[]) ∧ w' = w := Any.slices_Sort_int_none Tryz.lays189 p cap w
end Go.Proofs
/-
  What the keeper's pick and most do.
-/
namespace Go.Proofs.YtcnmajndackohaaGreatDoor
open Go.RowKit
end Go.Proofs.YtcnmajndackohaaGreatDoor
/-
  What flow does: one that may be, out of raw numbers.
-/
namespace Go.Proofs.YtcnmajndackohaaGreatDoor
open Go.RowKit
attribute [local go_sem ↓] Go.wp_at_zero Go.wp_at_succ
end Go.Proofs.YtcnmajndackohaaGreatDoor
/-
  What flows does: it lays the flows, made to be, into a new list.
-/
namespace Go.Proofs.YtcnmajndackohaaGreatDoor
open Go.RowKit
/-- A list of the call's own that holds the flows l. -/
def Own (w : World) (base : Nat) (v : Value) (l : List Fl) : Prop := w.ownsRow base 35 5 v l.length (fcells l)
theorem Own.fls {w : World} {base : Nat} {v : Value} {l : List Fl} (h : Own w base v l) : Fls w v l := by
  by_cases hn : 0 < l.length
  · obtain ⟨g, cap, rfl, _, hg⟩ := World.ownsRow.form h hn
    have hc : ∀ j u, (fcells l)[j]? = some u → w.cell? ⟨g, 0 + j, none⟩ = some u := fun j u hu => by
      have := World.ownsRow.cells h (g := g) rfl j u hu
      rwa [show (⟨g, 0, none⟩ : Addr).add j = ⟨g, 0 + j, none⟩ from by unfold Addr.add; split <;> simp_all] at this
    have hat : ∀ j u, (fcells l)[j]? = some u → w.cell? ⟨g, j, none⟩ = some u := fun j u hu => by have := hc j u hu; rwa [Nat.zero_add] at this
    refine .inr ⟨g, 0, cap, rfl, hg, ?_, ?_, ?_, ?_, ?_⟩
    all_goals intro k hk
    all_goals rw [Nat.zero_add]
    · exact hat _ _ (fcells_at l k hk).1
    · exact hat _ _ (fcells_at l k hk).2.1
    · exact hat _ _ (fcells_at l k hk).2.2.1
    · exact hat _ _ (fcells_at l k hk).2.2.2.1
    · exact hat _ _ (fcells_at l k hk).2.2.2.2
  · have e : l = [] := List.eq_nil_of_length_eq_zero (by omega)
    subst e
    rcases h.2 with ⟨rfl, _⟩ | ⟨g, cap, cur, rfl, _⟩
    · exact .inl ⟨rfl, _, _, rfl⟩
    · exact .inl ⟨rfl, _, _, rfl⟩
theorem infoFlow : (Tryz.prog.info? 35).map (fun i => (i.zero, i.size, i.bytes)) = some (some (.agg #[.int .i64 0, .int .i64 0, .int .i64 0, .int .i64 0, .int .i64 0]), 5, 40) := by kernel_rfl
theorem ownsRow_below {w w' : World} {base : Nat} {e : TypeId} {size : Nat} {v : Value} {n : Nat} {xs : List Value} (h : w.ownsRow base e size v n xs) (hb : Below w.heap.size w w') : w'.ownsRow base e size v n xs := by
  obtain ⟨h1, h2⟩ := h
  refine ⟨h1, ?_⟩
  rcases h2 with h2 | ⟨g, cap, cur, hv, hg, hc, r⟩
  · exact .inl h2
  · exact .inr ⟨g, cap, cur, hv, hg, (hb.block g (lt_of_heap hc)).trans hc, r⟩
/-- What an append of one flow leaves. -/
theorem own_push {w0 w w' : World} {v v' : Value} {l : List Fl} {g : Fl} (hown : Own w w0.heap.size v l) (hbel : Below w0.heap.size w0 w)
    (h' : w'.ownsRow w0.heap.size 35 5 v' (l.length + 1) (fcells l ++ [.int .i64 g.s, .int .i64 g.p, .int .i64 g.b, .int .i64 g.r, .int .i64 g.d])) (hg : w.grownBy w' v.ownBlock) :
    Own w' w0.heap.size v' (l ++ [g]) ∧ Below w0.heap.size w0 w' := by
  refine ⟨?_, hbel.grown hg hbel.size (fun k hk => (World.ownsRow.lt hown k hk).1)⟩
  unfold Own
  rw [fcells_append, List.length_append]
  exact h'
end Go.Proofs.YtcnmajndackohaaGreatDoor
/-
  The document's line, changed in place: a flow's state; a packet's start, told, dropped.
-/
namespace Go.Proofs.YtcnmajndackohaaGreatDoor
open Go.RowKit
theorem ownsRow_setN {w : World} {t : TypeId} {size g n cap k : Nat} {cs : List Value} {v : Value} (h : w.ownsRow 0 t size (.slice (some ⟨g, 0, none⟩) n cap) n cs) : (w.setCell ⟨g, k, none⟩ v).ownsRow 0 t size (.slice (some ⟨g, 0, none⟩) n cap) n (cs.set k v) := by
  refine ⟨by rw [List.length_set]; exact h.1, ?_⟩
  rcases h.2 with ⟨e, _⟩ | ⟨g', cap', cur, e1, e2, e3, e4, e5, e6, e7⟩
  · cases e
  · simp only [Value.slice.injEq, Option.some.injEq, Addr.mk.injEq] at e1
    obtain ⟨⟨rfl, _, _⟩, _, rfl⟩ := e1
    refine .inr ⟨g, cap, cur.setIfInBounds k v, rfl, e2, Is.set e3 k v, e4, e5, by rw [Array.size_setIfInBounds]; exact e6, ?_⟩
    rw [Array.toList_setIfInBounds, ← e7]
    rw [List.take_set]
theorem scells_is (l : List Stt) : ∀ (k : Nat) (h : k < l.length) (v : Int), scells (l.set k ⟨l[k].f, v⟩) = (scells l).set (k * 6 + 5) (.int .i64 v) := by
  induction l with
  | nil => intro k h; exact absurd h (by simp)
  | cons s l ih =>
    intro k h v
    cases k with
    | zero => rfl
    | succ k =>
      have e : (k + 1) * 6 + 5 = k * 6 + 5 + 6 := by omega
      rw [e]
      have := ih k (by simpa using h) v
      simp only [List.set_cons_succ, scells, scs, List.getElem_cons_succ, this]
      rfl
theorem pcells_field (l : List Pk) : ∀ (k : Nat) (h : k < l.length) (v : Int), pcells (l.set k { l[k] with start := v }) = (pcells l).set (k * 7 + 4) (.int .i64 v) ∧ pcells (l.set k { l[k] with dropped := true }) = (pcells l).set (k * 7 + 5) (.bool true) ∧ pcells (l.set k { l[k] with told := true }) = (pcells l).set (k * 7 + 6) (.bool true) := by
  induction l with
  | nil => intro k h; exact absurd h (by simp)
  | cons s l ih =>
    intro k h v
    cases k with
    | zero => exact ⟨rfl, rfl, rfl⟩
    | succ k =>
      have e4 : (k + 1) * 7 + 4 = k * 7 + 4 + 7 := by omega
      have e5 : (k + 1) * 7 + 5 = k * 7 + 5 + 7 := by omega
      have e6 : (k + 1) * 7 + 6 = k * 7 + 6 + 7 := by omega
      rw [e4, e5, e6]
      obtain ⟨h4, h5, h6⟩ := ih k (by simpa using h) v
      simp only [List.set_cons_succ, pcells, pcs, List.getElem_cons_succ, h4, h5, h6]
      exact ⟨rfl, rfl, rfl⟩
section
variable {w : World} {P : Nat} {x : Ln} {o : Whose} {vf vp vb : Value}
/-- A cell of the flows. -/
theorem RefV.setFl {g n c k : Nat} {v : Value} {fl : List Stt} (h : RefV w P x o (.slice (some ⟨g, 0, none⟩) n c) vp vb) (hl : fl.length = x.fl.length) (hn : n = x.fl.length) (hc : scells fl = (scells x.fl).set k v) : RefV (w.setCell ⟨g, k, none⟩ v) P { x with fl := fl } o (.slice (some ⟨g, 0, none⟩) n c) vp vb ∧ Only (fun i => o i ≠ 0) w (w.setCell ⟨g, k, none⟩ v) := by
  subst hn
  have hg : o g = 2 := h.fl.2 g rfl
  have hs := only_set w g k v
  have ne : ∀ d, d ≠ 2 → ∀ i, i = g → o i ≠ d := fun d hd i e c => hd (by rw [← c, e, hg])
  refine ⟨⟨?_, ⟨?_, h.fl.2⟩, h.pk.keep hs (ne 3 (by decide)) (fun _ _ => rfl), h.bg.keep hs (ne 4 (by decide)) (fun _ _ => rfl), h.pb, fun i hi => h.fr i (by rwa [set_sz] at hi)⟩, hs.mono fun i _ e => by rw [e, hg]; decide⟩
  · refine (hs.block P h.blk.lt (fun e => ?_)).trans h.blk
    have := h.pb
    rw [e, hg] at this; cases this
  · show World.ownsRow _ _ _ _ _ fl.length (scells fl)
    rw [hl, hc]
    exact ownsRow_setN h.fl.1
/-- A cell of the packets. -/
theorem RefV.setPk {g n c k : Nat} {v : Value} {pk : List Pk} (h : RefV w P x o vf (.slice (some ⟨g, 0, none⟩) n c) vb) (hl : pk.length = x.pk.length) (hn : n = x.pk.length) (hc : pcells pk = (pcells x.pk).set k v) : RefV (w.setCell ⟨g, k, none⟩ v) P { x with pk := pk } o vf (.slice (some ⟨g, 0, none⟩) n c) vb ∧ Only (fun i => o i ≠ 0) w (w.setCell ⟨g, k, none⟩ v) := by
  subst hn
  have hg : o g = 3 := h.pk.2 g rfl
  have hs := only_set w g k v
  have ne : ∀ d, d ≠ 3 → ∀ i, i = g → o i ≠ d := fun d hd i e c => hd (by rw [← c, e, hg])
  refine ⟨⟨?_, h.fl.keep hs (ne 2 (by decide)) (fun _ _ => rfl), ⟨?_, h.pk.2⟩, h.bg.keep hs (ne 4 (by decide)) (fun _ _ => rfl), h.pb, fun i hi => h.fr i (by rwa [set_sz] at hi)⟩, hs.mono fun i _ e => by rw [e, hg]; decide⟩
  · refine (hs.block P h.blk.lt (fun e => ?_)).trans h.blk
    have := h.pb
    rw [e, hg] at this; cases this
  · show World.ownsRow _ _ _ _ _ pk.length (pcells pk)
    rw [hl, hc]
    exact ownsRow_setN h.pk.1
/-- The tick. -/
theorem RefV.setNow {v : Int} (h : RefV w P x o vf vp vb) : RefV (w.setCell ⟨P, 0, none⟩ (.int .i64 v)) P { x with now := v } o vf vp vb ∧ Only (fun i => o i ≠ 0) w (w.setCell ⟨P, 0, none⟩ (.int .i64 v)) := by
  have hs := only_set w P 0 (.int .i64 v)
  have ne : ∀ d, d ≠ 1 → ∀ i, i = P → o i ≠ d := fun d hd i e c => hd (by rw [← c, e, h.pb])
  exact ⟨⟨h.blk.set 0 _, h.fl.keep hs (ne 2 (by decide)) (fun _ _ => rfl), h.pk.keep hs (ne 3 (by decide)) (fun _ _ => rfl), h.bg.keep hs (ne 4 (by decide)) (fun _ _ => rfl), h.pb, fun i hi => h.fr i (by rwa [set_sz] at hi)⟩, hs.mono fun i _ e => by rw [e, h.pb]; decide⟩
end
end Go.Proofs.YtcnmajndackohaaGreatDoor
/-
  What adds does: one flow more.
-/
namespace Go.Proofs.YtcnmajndackohaaGreatDoor
open Go.RowKit
end Go.Proofs.YtcnmajndackohaaGreatDoor
/-
  What due does: is each packet of a flow that has gone in time?
-/
namespace Go.Proofs.YtcnmajndackohaaGreatDoor
open Go.RowKit
end Go.Proofs.YtcnmajndackohaaGreatDoor
/-
  What a step of a play does.
-/
namespace Go.Proofs.YtcnmajndackohaaGreatDoor
open Go.RowKit
end Go.Proofs.YtcnmajndackohaaGreatDoor
/-
  What a step of a play does: none, Run, Other.
-/
namespace Go.Proofs.YtcnmajndackohaaGreatDoor
open Go.RowKit
end Go.Proofs.YtcnmajndackohaaGreatDoor
/-
  What a step of a play does: Other.
-/
namespace Go.Proofs.YtcnmajndackohaaGreatDoor
open Go.RowKit
end Go.Proofs.YtcnmajndackohaaGreatDoor
/-
  What a step of a play does: Send.
-/
namespace Go.Proofs.YtcnmajndackohaaGreatDoor
open Go.RowKit
end Go.Proofs.YtcnmajndackohaaGreatDoor
/-
  What a step of a play does; how great the numbers are.
-/
namespace Go.Proofs.YtcnmajndackohaaGreatDoor
open Go.RowKit
theorem away_same (x : Ln) : x.away.now = x.now ∧ x.away.pk = x.pk ∧ x.away.began = x.began := by unfold Ln.away; split <;> exact ⟨rfl, rfl, rfl⟩
theorem drp_sks (now k : Int) (l : List Pk) : (l.map (drp now k)).map Pk.sk = l.map Pk.sk := by
  rw [List.map_map]
  exact List.map_congr_left fun p _ => (same_drp (now := now) k).sk p
theorem Sml.teardown {x : Ln} {n : Nat} (h : Sml x n) (k : Int) : Sml (x.teardown k).2 n := by
  refine teardown_cases (P := fun y => Sml y n) h fun st _ _ => ?_
  obtain ⟨e1, e2, e3⟩ := away_same { x with fl := x.fl.set k.toNat ⟨st.f, 1⟩, pk := x.pk.map (drp x.now k) }
  refine sml_sk h (by rw [e1]; exact h.now) (by rw [e2]; exact drp_sks _ _ _) (Nat.le_refl _) (by rw [e3]; exact h.bg)
theorem ticks_fl : ∀ (n : Nat) (x : Ln), (x.ticks n).fl.map Stt.f = x.fl.map Stt.f
  | 0, _ => rfl
  | n + 1, x => by
    show (x.tick.ticks n).fl.map Stt.f = _
    rw [ticks_fl n x.tick]
    have ha : x.away.fl.map Stt.f = x.fl.map Stt.f := by
      unfold Ln.away
      split
      · rfl
      · show (x.fl.map gone1).map Stt.f = _
        rw [List.map_map]
        exact List.map_congr_left fun st _ => gone1_f st
    have hb : ∀ y : Ln, y.begins.fl = y.fl := fun y => by
      unfold Ln.begins
      split
      · rfl
      · split <;> rfl
    show x.away.begins.fl.map Stt.f = _
    rw [hb, ha]
end Go.Proofs.YtcnmajndackohaaGreatDoor
/-
  What all does: a script, and ticks until nothing more may go.
-/
namespace Go.Proofs.YtcnmajndackohaaGreatDoor
open Go.RowKit
end Go.Proofs.YtcnmajndackohaaGreatDoor
/-
  Plain: what of a play has gone is in time, where its flows fit.
-/
namespace Go.Proofs.YtcnmajndackohaaGreatDoor
open Go.RowKit
/-- A packet's flow and tick are no less than -1. -/
def Flw (x : Ln) : Prop := ∀ p ∈ x.pk, -1 ≤ p.flow ∧ -1 ≤ p.ready
theorem flw_sk {x y : Ln} (h : Flw x) (e : y.pk.map Pk.sk = x.pk.map Pk.sk) : Flw y := fun p hp => by
  have : p.sk ∈ x.pk.map Pk.sk := by rw [← e]; exact List.mem_map.2 ⟨p, hp, rfl⟩
  obtain ⟨q, hq, e⟩ := List.mem_map.1 this
  have h1 : q.flow = p.flow := congrArg Sk.flow e
  have h2 : q.ready = p.ready := congrArg Sk.ready e
  have := h q hq
  omega
theorem flw_push {x : Ln} (h : Flw x) {k size r : Int} (hk : -1 ≤ k) (hr : -1 ≤ r) : Flw (x.push k size r) := fun p hp => by
  rcases List.mem_append.1 (show p ∈ x.pk ++ [_] from hp) with q | q
  · exact h p q
  · rw [List.mem_singleton.1 q]; exact ⟨hk, hr⟩
theorem flw_send {x : Ln} (h : Flw x) (hn : 0 ≤ x.now) (k size : Int) : Flw (x.send k size).2 := by
  refine send_cases (P := Flw) h fun st ha _ _ => flw_push h (by have := (at_some ha).1; omega) ?_
  unfold Ln.readyAt
  have := latest_ge k x.pk x.now
  rcases seekR_spec (conf st.f k size (x.pk.map Pk.sk).reverse) 401 (latest k x.now x.pk) with e | ⟨e, _⟩ <;> omega
theorem flw_other {x : Ln} (h : Flw x) (hn : 0 ≤ x.now) (size : Int) : Flw (x.other size).2 := other_cases (P := Flw) h fun _ => flw_push h (by decide) (by omega)
theorem flw_run {x : Ln} (h : Flw x) (t : Int) : Flw (x.run t).2 := by
  unfold Ln.run
  split
  · exact h
  · exact flw_sk h (ticks_sk _ _).2.1
theorem flw_gone {x : Ln} (h : Flw x) : Flw x.gone.2 := flw_sk h (untold_sk _ _ (gone_untold _ _ _))
end Go.Proofs.YtcnmajndackohaaGreatDoor
/-
  The law's world in memory: its six lists, and the lists that came out.
-/
namespace Go.Proofs.YtcnmajndackohaaGreatDoor
open Go.RowKit
section
variable {w w' : World} {o o' : Whose} {c : Nat} {t : TypeId} {size : Nat} {v : Value} {n : Nat} {cs : List Value} {S : Nat → Prop}
theorem row_lenW {w : World} {b : Nat} {t : TypeId} {v : Value} {n size : Nat} {xs : List Value} (h : w.ownsRow b t size v n xs) : ∃ a c, v = .slice a n c := by
  rcases h.2 with ⟨e1, e2⟩ | ⟨g, cap, cur, e1, _⟩
  · exact ⟨none, 0, by rw [e1, e2]⟩
  · exact ⟨_, _, e1⟩
theorem Rw.keepC (h : Rw w o c t size v n cs) (ho : Only S w w') (hs : ∀ i, S i → o i ≠ c) (ho' : ∀ i, i < w.heap.size → o i = c → o' i = c) : Rw w' o' c t size v n cs :=
  ⟨ownsRow_only h.1 ho fun g hg k => hs g k (h.2 g hg), fun g hg => ho' g (ownsRow_lt h.1 g hg).2 (h.2 g hg)⟩
/-- A list that came out holds its mark all over. -/
def Mk (w : World) (o : Whose) (size : Nat) (mk : List Value) (v : Value) : Prop :=
  v = .slice none 0 0 ∨ ∃ g n cap, v = .slice (some ⟨g, 0, none⟩) n cap ∧ o g = 8 ∧ g < w.heap.size ∧ n ≤ maxLen ∧ ∀ k, k < n → ∀ j u, mk[j]? = some u → w.cell? ⟨g, k * size + j, none⟩ = some u
theorem Mk.keep {mk : List Value} (h : Mk w o size mk v) (hc : ∀ g, g < w.heap.size → o g = 8 → v.ownBlock = some g → w'.heap[g]? = w.heap[g]?) (hz : w.heap.size ≤ w'.heap.size) (ho' : ∀ i, i < w.heap.size → o i = 8 → o' i = 8) : Mk w' o' size mk v := by
  rcases h with e | ⟨g, n, cap, e, h8, hg, hn, hm⟩
  · exact .inl e
  · refine .inr ⟨g, n, cap, e, ho' g hg h8, Nat.lt_of_lt_of_le hg hz, hn, fun k hk j u hu => ?_⟩
    rw [World.cell?_of_block (a := ⟨g, k * size + j, none⟩) (hc g hg h8 (by rw [e]; rfl))]
    exact hm k hk j u hu
def mkG (m : Int) : List Value := [.int .i64 m, .int .i64 0, .int .i64 0, .int .i64 0, .int .i64 0, .int .i64 0]
def mkI (m : Int) : List Value := [.int .i64 m]
/-- So many marks. -/
def reps (mk : List Value) : Nat → List Value
  | 0 => []
  | n + 1 => reps mk n ++ mk
theorem reps_len (mk : List Value) : ∀ n, (reps mk n).length = n * mk.length
  | 0 => by rw [Nat.zero_mul]; rfl
  | n + 1 => by show (reps mk n ++ mk).length = _; rw [List.length_append, reps_len mk n, Nat.succ_mul]
theorem reps_at (mk : List Value) : ∀ (n k j : Nat), k < n → j < mk.length → (reps mk n)[k * mk.length + j]? = mk[j]?
  | 0, k, _, h, _ => absurd h (Nat.not_lt_zero _)
  | n + 1, k, j, h, hj => by
    show (reps mk n ++ mk)[k * mk.length + j]? = _
    by_cases c : k < n
    · have hlt : k * mk.length + j < (reps mk n).length := by
        rw [reps_len]
        have := Nat.mul_le_mul_right mk.length (show k + 1 ≤ n from c)
        rw [Nat.succ_mul] at this
        omega
      rw [List.getElem?_append_left hlt]
      exact reps_at mk n k j c hj
    · have e : k = n := by omega
      subst e
      rw [List.getElem?_append_right (by rw [reps_len]; omega), reps_len]
      congr 1
      omega
theorem own_cell {w : World} {t : TypeId} {size g n cap j b : Nat} {cs : List Value} {u : Value} (h : w.ownsRow b t size (.slice (some ⟨g, 0, none⟩) n cap) n cs) (hu : cs[j]? = some u) : w.cell? ⟨g, j, none⟩ = some u := by
  have := World.ownsRow.cells h (g := g) rfl j u hu
  rwa [show (⟨g, 0, none⟩ : Addr).add j = ⟨g, j, none⟩ from by unfold Addr.add; split <;> simp_all] at this
theorem own_max {w : World} {t : TypeId} {size n b : Nat} {v : Value} {cs : List Value} (h : w.ownsRow b t size v n cs) : n ≤ maxLen := by
  rcases h.2 with ⟨_, e⟩ | ⟨_, _, _, _, _, _, h1, h2, _⟩
  · rw [e]; exact Nat.zero_le _
  · exact Nat.le_trans h1 h2
/-- A row of marks is marked. -/
theorem mk_of {w : World} {o : Whose} {mk : List Value} {t : TypeId} {v : Value} {n : Nat} (h : Rw w o 8 t mk.length v n (reps mk n)) : Mk w o mk.length mk v := by
  have hm := own_max h.1
  rcases h.1.2 with ⟨e, _⟩ | ⟨g, cap, cur, rfl, _, h3, _⟩
  · exact .inl e
  · refine .inr ⟨g, n, cap, rfl, h.2 g rfl, lt_of_heap h3, hm, fun k hk j u hu => ?_⟩
    have hj : j < mk.length := by
      rcases Nat.lt_or_ge j mk.length with c | c
      · exact c
      · rw [List.getElem?_eq_none c] at hu; cases hu
    exact own_cell h.1 (by rw [reps_at mk n k j hk hj]; exact hu)
/-- The lists that lie in l's row are no longer than l. -/
def Hd (l : Value) (n : Nat) (size : Nat) (v : Value) (sv : Nat) : Prop := ∀ g n' c', v = .slice (some ⟨g, 0, none⟩) n' c' → l.ownBlock = some g → n' * sv ≤ n * size
/-- What an append onto l leaves of the others. -/
theorem Mk.push {w w1 w2 : World} {o o' : Whose} {mk : List Value} {t : TypeId} {size n m g cap : Nat} {l v : Value} {cs news : List Value} (h : Mk w o mk.length mk v) (hb : Below w.heap.size w w1) (hr : w.ownsRow 0 t size l n cs) (hr2 : w2.ownsRow 0 t size (.slice (some ⟨g, 0, none⟩) (n + m) cap) (n + m) (cs ++ news)) (hgr : w1.grownBy w2 l.ownBlock) (hat : l.ownBlock = some g ∨ (g = w1.heap.size ∧ Below w1.heap.size w1 w2)) (hd : Hd l n size v mk.length) (ho' : ∀ i, i < w.heap.size → o i = 8 → o' i = 8) : Mk w2 o' mk.length mk v := by
  have hz : w.heap.size ≤ w2.heap.size := Nat.le_trans hb.size hgr.size
  rcases hat with e | ⟨_, hb2⟩
  · by_cases c : v.ownBlock = some g
    · rcases h with e' | ⟨g', n', cap', e', h8, hg, hn, hm⟩
      · rw [e'] at c; cases c
      · have : g' = g := by rw [e'] at c; exact Option.some.inj c
        subst this
        refine .inr ⟨g', n', cap', e', ho' g' hg h8, Nat.lt_of_lt_of_le hg hz, hn, fun k hk j u hu => ?_⟩
        have hj : j < mk.length := by
          rcases Nat.lt_or_ge j mk.length with c | c
          · exact c
          · rw [List.getElem?_eq_none c] at hu; cases hu
        have hle := hd g' n' cap' e' e
        have hk' := Nat.mul_le_mul_right mk.length (show k + 1 ≤ n' from hk)
        rw [Nat.succ_mul] at hk'
        have hlt : k * mk.length + j < cs.length := by rw [hr.1]; omega
        have hold := hm k hk j u hu
        obtain ⟨gl, cl, hl, _⟩ : ∃ gl cl, l = .slice (some ⟨gl, 0, none⟩) n cl ∧ True := by
          rcases hr.2 with ⟨e1, _⟩ | ⟨gl, cl, _, e1, _⟩
          · rw [e1] at e; cases e
          · exact ⟨gl, cl, e1, trivial⟩
        have hgl : gl = g' := by rw [hl] at e; exact Option.some.inj e
        subst hgl
        rw [hl] at hr
        have h1 := own_cell hr (List.getElem?_eq_getElem hlt)
        rw [hold] at h1
        exact own_cell hr2 (by rw [List.getElem?_append_left hlt, List.getElem?_eq_getElem hlt]; exact h1.symm)
    · exact h.keep (fun g' hg' _ hv => (hgr.block g' (Nat.lt_of_lt_of_le hg' hb.size) (fun k => c (by rw [hv, k, e]))).trans (hb.block g' hg')) hz ho'
  · exact h.keep (fun g' hg' _ _ => (hb2.block g' (Nat.lt_of_lt_of_le hg' hb.size)).trans (hb.block g' hg')) hz ho'
def ptrs (l : List Nat) : List Value := l.map fun (p : Nat) => .pointer (some ⟨p, 0, none⟩)
/-- The types of the elements of the world's six lists. -/
def tyW : Nat → TypeId
  | 0 => 54
  | 1 => 75
  | 2 => 55
  | 3 => 3
  | 4 => 27
  | _ => 3
/-- What they hold. -/
def lsW (ps qs : List Nat) (gl : List Value) (gm : List Int) (il : List Value) (im : List Int) : Nat → List Value
  | 0 => ptrs ps
  | 1 => ptrs qs
  | 2 => gl
  | 3 => icells gm
  | 4 => il
  | 5 => icells im
  | _ => []
/-- The law's world: its block and its six lists. -/
structure WdC (w : World) (B : Nat) (o : Whose) (vs : Nat → Value) (ls : Nat → List Value) : Prop where
  blk : Is w B 30 #[vs 0, vs 1, vs 2, vs 3, vs 4, vs 5]
  rw : ∀ j, j < 6 → Rw w o (2 + j) (tyW j) 1 (vs j) (ls j).length (ls j)
  pb : o B = 1
  fr : o.free w
/-- The lists that came out bear their marks. -/
structure Mks (w : World) (o : Whose) (gl : List Value) (gm : List Int) (il : List Value) (im : List Int) : Prop where
  mg : ∀ (i : Nat) (v : Value) (m : Int), gl[i]? = some v → gm[i]? = some m → Mk w o 6 (mkG m) v
  mi : ∀ (i : Nat) (v : Value) (m : Int), il[i]? = some v → im[i]? = some m → Mk w o 1 (mkI m) v
/-- The tags that the world's own blocks bear. -/
def own8 (c : Nat) : Prop := 1 ≤ c ∧ c ≤ 8
theorem WdC.keep {B : Nat} {vs : Nat → Value} {ls : Nat → List Value} (h : WdC w B o vs ls) (hO : Only S w w') (hs : ∀ i, S i → ¬ (1 ≤ o i ∧ o i ≤ 7)) (ho' : ∀ i, i < w.heap.size → 1 ≤ o i → o i ≤ 7 → o' i = o i) (hf : o'.free w') : WdC w' B o' vs ls := by
  refine ⟨h.blk.only hO (fun k => hs B k (by rw [h.pb]; decide)), fun j hj => (h.rw j hj).keepC hO (fun i hi e => hs i hi (by omega)) (fun i hi e => (ho' i hi (by omega) (by omega)).trans e), (ho' B h.blk.lt (by rw [h.pb]; decide) (by rw [h.pb]; decide)).trans h.pb, hf⟩
theorem Mks.keep {gl : List Value} {gm : List Int} {il : List Value} {im : List Int} (h : Mks w o gl gm il im) (hO : Only S w w') (hs : ∀ i, S i → o i ≠ 8) (ho' : ∀ i, i < w.heap.size → o i = 8 → o' i = 8) : Mks w' o' gl gm il im :=
  ⟨fun i v m hi hm => (h.mg i v m hi hm).keep (fun g hg h8 _ => hO.block g hg (fun k => hs g k h8)) hO.size ho', fun i v m hi hm => (h.mi i v m hi hm).keep (fun g hg h8 _ => hO.block g hg (fun k => hs g k h8)) hO.size ho'⟩
theorem blk_set {B : Nat} {vs : Nat → Value} (j : Nat) (v : Value) (h : Is w B 30 #[vs 0, vs 1, vs 2, vs 3, vs 4, vs 5]) (hj : j < 6) : Is (w.setCell ⟨B, j, none⟩ v) B 30 #[(fun i => if i = j then v else vs i) 0, (fun i => if i = j then v else vs i) 1, (fun i => if i = j then v else vs i) 2, (fun i => if i = j then v else vs i) 3, (fun i => if i = j then v else vs i) 4, (fun i => if i = j then v else vs i) 5] := by
  have hs := h.set j v
  have : j = 0 ∨ j = 1 ∨ j = 2 ∨ j = 3 ∨ j = 4 ∨ j = 5 := by omega
  rcases this with e | e | e | e | e | e <;> subst e <;> exact hs
/-- One more in list j. -/
theorem WdC.grow {w1 w2 : World} {B j : Nat} {vs : Nat → Value} {ls : Nat → List Value} {u v' : Value} (h : WdC w B o vs ls) (hj : j < 6) (hb : Below w.heap.size w w1) (h' : w2.ownsRow 0 (tyW j) 1 v' ((ls j).length + 1) (ls j ++ [u])) (hg : w1.grownBy w2 (vs j).ownBlock) (hat : ∀ g, v'.ownBlock = some g → (vs j).ownBlock = some g ∨ w.heap.size ≤ g) :
    WdC (w2.setCell ⟨B, j, none⟩ v') B (o.give w.heap.size w2.heap.size (2 + j)) (fun i => if i = j then v' else vs i) (fun i => if i = j then ls j ++ [u] else ls i) ∧ Only (fun i => o i = 1 ∨ o i = 2 + j) w (w2.setCell ⟨B, j, none⟩ v') ∧ Is w2 B 30 #[vs 0, vs 1, vs 2, vs 3, vs 4, vs 5] := by
  obtain ⟨k1, k2⟩ := (h.rw j hj).grown hb h' hg hat
  have hB : o B = 1 := h.pb
  have hsz : w.heap.size ≤ w2.heap.size := k2.size
  have b2 := h.blk.only k2 (fun e => by rw [hB] at e; omega)
  have old : ∀ i, i < w.heap.size → o.give w.heap.size w2.heap.size (2 + j) i = o i := fun i hi => give_old hi
  have hs := only_set w2 B j v'
  have ne : ∀ c, 2 ≤ c → ∀ i, i = B → o.give w.heap.size w2.heap.size (2 + j) i ≠ c := fun c hc i e => by rw [e, old B h.blk.lt, hB]; omega
  refine ⟨⟨blk_set j v' b2 hj, fun i hi => ?_, (old B h.blk.lt).trans hB, fun i hi => give_free h.fr hsz i (by rwa [set_sz] at hi)⟩, (k2.mono fun i _ e => .inr e).setCell (.inl (.inl hB)), b2⟩
  by_cases e : i = j
  · subst e
    simp only [if_true]
    rw [List.length_append]
    exact k1.keep hs (ne _ (by omega)) (fun _ _ => rfl)
  · simp only [if_neg e]
    exact ((h.rw i hi).keep k2 (fun g hg' e' => e (by omega)) old).keep hs (ne _ (by omega)) (fun _ _ => rfl)
end
section
variable {w w' : World} {o : Whose} {Q : Nat} {x : Ln} {S : Nat → Prop}
theorem RefV.only {vf vp vb : Value} (h : RefV w Q x o vf vp vb) (hO : Only S w w') (hs : ∀ i, S i → o i = 0) : RefV w' Q x (o.give w.heap.size w'.heap.size 0) vf vp vb := by
  have a : ∀ c, c ≠ 0 → ∀ i, S i → o i ≠ c := fun c hc i hi e => hc (by rw [← e, hs i hi])
  have b : ∀ i, i < w.heap.size → o.give w.heap.size w'.heap.size 0 i = o i := fun i hi => give_old hi
  refine ⟨h.blk.only hO (fun k => ?_), h.fl.keep hO (a 2 (by decide)) b, h.pk.keep hO (a 3 (by decide)) b, h.bg.keep hO (a 4 (by decide)) b, (b Q h.blk.lt).trans h.pb, give_free h.fr hO.size⟩
  have := h.pb
  rw [hs Q k] at this; cases this
theorem RefV.lt {vf vp vb : Value} (h : RefV w Q x o vf vp vb) {i : Nat} (hi : o i ≠ 0) : i < w.heap.size := by
  rcases Nat.lt_or_ge i w.heap.size with g | g
  · exact g
  · exact absurd (h.fr i g) hi
end
end Go.Proofs.YtcnmajndackohaaGreatDoor
/-
  append, where the old row is known to stay as it was if a new one is made.
-/
namespace Go.Proofs.YtcnmajndackohaaGreatDoor
open Go.RowKit
section
variable {P : Program} (w : World)
theorem run_append_far (t ty : TypeId) (e : TypeId) (i : TypeInfo) (z : Value) (size bytes : Nat) (ht : P.underlying t = some (.slice e)) (hi : P.info? e = some i) (hz : i.zero = some z)
    (hsize : i.size = size) (hby : i.bytes = bytes) (hzs : z.cells.size = size) (hsz : 0 < size)
    (v : Value) (n : Nat) (xs : List Value) (hown : w.ownsRow 0 e size v n xs)
    (ad : Addr) (m c : Nat) (news : List Value) (hl : news.length = m * size) (hnews : ∀ j u, news[j]? = some u → w.cell? (ad.add j) = some u) (h1 : ∀ u ∈ news, u.oneCell' = true)
    (hm : 0 < m) (h63 : n + m ≤ maxLen) (hbytes : (n + m) * bytes ≤ 140737488355328) :
    ∃ g cap w', (Builtin.append_ #[t, t] ty #[v, .slice (some ad) m c]).run P w = .ok (.slice (some ⟨g, 0, none⟩) (n + m) cap) w' ∧
      w'.ownsRow 0 e size (.slice (some ⟨g, 0, none⟩) (n + m) cap) (n + m) (xs ++ news) ∧ w.grownBy w' v.ownBlock ∧ (v.ownBlock = some g ∨ (g = w.heap.size ∧ Below w.heap.size w w')) ∧ g < w'.heap.size := by
  obtain ⟨g, cap, w', hr, h2, h3, h4, h5⟩ := run_append_lies (P := P) w t ty 0 e i z size bytes ht hi hz hsize hby hzs hsz v n xs hown ad m c news hl hnews h1 hm h63 hbytes (Nat.zero_le _) _ rfl
  refine ⟨g, cap, w', hr, h2, h3, ?_, h5⟩
  rcases hown.2 with ⟨rfl, hn⟩ | ⟨g0, cap0, cur, rfl, _, hg0, hnc, hcm, hcs, htake⟩
  · rcases h4 with h4 | h4
    · cases h4
    · exact .inr ⟨h4, ⟨h3.os, h3.tape, h3.output, h3.size, fun k hk => h3.block k hk (fun e => by cases e)⟩⟩
  · by_cases hroom : n + m ≤ cap0
    · obtain ⟨w2, hr2, _, _⟩ := run_append_own_spare (P := P) w 0 t ty e i size ht hi hsize g0 n cap0 xs hown ad m c news hl hnews h1 hroom
      rw [hr] at hr2
      simp only [Result.ok.injEq, Value.slice.injEq, Option.some.injEq, Addr.mk.injEq] at hr2
      exact .inl (by rw [hr2.1.1.1]; rfl)
    · have hr2 := run_append_grow (P := P) w t ty e i z ht hi hz ⟨g0, 0, none⟩ n cap0 xs (by rw [hsize]; exact hown.1) (hown.cells (g := g0) rfl) ad m c news (by rw [hsize]; exact hl) hnews (by omega) (by simp only [maxLen] at h63; omega) (growslice_fits (by omega) (by rw [hby]; exact hbytes))
      rw [hr] at hr2
      simp only [Result.ok.injEq, Value.slice.injEq, Option.some.injEq, Addr.mk.injEq] at hr2
      obtain ⟨⟨⟨e1, _⟩, _⟩, e2⟩ := hr2
      right
      refine ⟨e1, ?_⟩
      rw [e2]
      exact ((Below.refl _ _).drew).alloc (Nat.le_refl _) _
theorem wp_append_far {o : Oper} {a : Act} {K : Act → World → Prop} {Q : Exit → Act → World → Prop} (s x : Operand) (t : TypeId)
    (ho : o.op = .call { callee := .builtin .append, args := #[s, x], argTypes := #[t, t] })
    (e : TypeId) (i : TypeInfo) (z : Value) (size bytes : Nat) (ht : P.underlying t = some (.slice e)) (hi : P.info? e = some i) (hz : i.zero = some z)
    (hsize : i.size = size) (hby : i.bytes = bytes) (hzs : z.cells.size = size) (hsz : 0 < size)
    (v : Value) (n : Nat) (xs : List Value) (hs : a.eval s = v) (hown : w.ownsRow 0 e size v n xs)
    (ad : Addr) (m c : Nat) (news : List Value) (hx : a.eval x = .slice (some ad) m c) (hl : news.length = m * size) (hnews : ∀ j u, news[j]? = some u → w.cell? (ad.add j) = some u) (h1 : ∀ u ∈ news, u.oneCell' = true)
    (hm : 0 < m) (h63 : n + m ≤ maxLen) (hbytes : (n + m) * bytes ≤ 140737488355328)
    (h : ∀ g cap w', w'.ownsRow 0 e size (.slice (some ⟨g, 0, none⟩) (n + m) cap) (n + m) (xs ++ news) → w.grownBy w' v.ownBlock → (v.ownBlock = some g ∨ (g = w.heap.size ∧ Below w.heap.size w w')) → g < w'.heap.size → K (a.put o.dst (.slice (some ⟨g, 0, none⟩) (n + m) cap)) w') : o.wp P a w K Q := by
  obtain ⟨g, cap, w', hr, h2, h3, h4, h5⟩ := run_append_far (P := P) w t o.type e i z size bytes ht hi hz hsize hby hzs hsz v n xs hown ad m c news hl hnews h1 hm h63 hbytes
  unfold Oper.wp execOp
  simp only [ho, resolve, invoke, builtin, Sem.run_bind, Sem.run_pure, Result.andThen_ok, List.map_toArray, List.map_cons, List.map_nil, hs, hx, hr]
  exact h g cap w' h2 h3 h4 h5
theorem wpList_append_far {ops : Array Oper} {rest : List Oper} {o : Oper} {a : Act} {Q : Exit → Act → World → Prop} (hgd : o.guard = none) (s x : Operand) (t : TypeId)
    (ho : o.op = .call { callee := .builtin .append, args := #[s, x], argTypes := #[t, t] })
    (e : TypeId) (i : TypeInfo) (z : Value) (size bytes : Nat) (ht : P.underlying t = some (.slice e)) (hi : P.info? e = some i) (hz : i.zero = some z)
    (hsize : i.size = size) (hby : i.bytes = bytes) (hzs : z.cells.size = size) (hsz : 0 < size)
    (v : Value) (n : Nat) (xs : List Value) (hs : a.eval s = v) (hown : w.ownsRow 0 e size v n xs)
    (ad : Addr) (m c : Nat) (news : List Value) (hx : a.eval x = .slice (some ad) m c) (hl : news.length = m * size) (hnews : ∀ j u, news[j]? = some u → w.cell? (ad.add j) = some u) (h1 : ∀ u ∈ news, u.oneCell' = true)
    (hm : 0 < m) (h63 : n + m ≤ maxLen) (hbytes : (n + m) * bytes ≤ 140737488355328)
    (h : ∀ g cap w', w'.ownsRow 0 e size (.slice (some ⟨g, 0, none⟩) (n + m) cap) (n + m) (xs ++ news) → w.grownBy w' v.ownBlock → (v.ownBlock = some g ∨ (g = w.heap.size ∧ Below w.heap.size w w')) → g < w'.heap.size → wpList P ops Q rest (a.put o.dst (.slice (some ⟨g, 0, none⟩) (n + m) cap)) w') : wpList P ops Q (o :: rest) a w :=
  wpList_plain hgd fun _ hK => wp_append_far w s x t ho e i z size bytes ht hi hz hsize hby hzs hsz v n xs hs hown ad m c news hx hl hnews h1 hm h63 hbytes fun g cap w' h2 h3 h4 h5 => hK _ _ (h g cap w' h2 h3 h4 h5)
end
end Go.Proofs.YtcnmajndackohaaGreatDoor
/-
  What keep does, step by step: a list that came out is written over, and recorded with its mark.
-/
namespace Go.Proofs.YtcnmajndackohaaGreatDoor
open Go.RowKit
theorem lsW2 {ps qs : List Nat} {gl : List Value} {gm : List Int} {il : List Value} {im : List Int} (u : Value) : (fun i => if i = 2 then lsW ps qs gl gm il im 2 ++ [u] else lsW ps qs gl gm il im i) = lsW ps qs (gl ++ [u]) gm il im := by
  funext i
  match i with
  | 0 | 1 | 2 | 3 | 4 | 5 => rfl
  | i + 6 => rfl
theorem lsW3 {ps qs : List Nat} {gl : List Value} {gm : List Int} {il : List Value} {im : List Int} (m : Int) : (fun i => if i = 3 then lsW ps qs gl gm il im 3 ++ [.int .i64 m] else lsW ps qs gl gm il im i) = lsW ps qs gl (gm ++ [m]) il im := by
  funext i
  match i with
  | 0 | 1 | 2 | 4 | 5 => rfl
  | 3 => show icells gm ++ [.int .i64 m] = icells (gm ++ [m]); unfold icells; rw [List.map_append]; rfl
  | i + 6 => rfl
/-- The world while a list is kept: l is the list, of n marks. -/
structure KpG (w wr : World) (B : Nat) (o o' : Whose) (vs' : Nat → Value) (ps qs : List Nat) (gl : List Value) (gm : List Int) (il : List Value) (im : List Int) (v l : Value) (n : Nat) (m : Int) (u0 u1 : Value) : Prop where
  c : WdC wr B o' vs' (lsW ps qs gl gm il im)
  k : Mks wr o' gl gm il im
  r : Rw wr o' 8 63 6 l n (reps (mkG m) n)
  hg : ∀ v' ∈ gl, Hd l n 6 v' 6
  hi : ∀ v' ∈ il, Hd l n 6 v' 1
  O : Only (fun i => own8 (o i) ∨ v.ownBlock = some i) w wr
  od : ∀ i, i < w.heap.size → v.ownBlock ≠ some i → o' i = o i
  e0 : vs' 0 = u0
  e1 : vs' 1 = u1
section
variable {w wr w1 w2 : World} {B : Nat} {o o' : Whose} {vs' : Nat → Value} {ps qs : List Nat} {gl : List Value} {gm : List Int} {il : List Value} {im : List Int} {v l v' u0 u1 : Value} {n g cap : Nat} {m : Int}
theorem KpG.own (h : KpG w wr B o o' vs' ps qs gl gm il im v l n m u0 u1) {i : Nat} (hi : i < w.heap.size) (k : own8 (o' i)) : own8 (o i) ∨ v.ownBlock = some i := by
  by_cases c : v.ownBlock = some i
  · exact .inr c
  · rw [h.od i hi c] at k; exact .inl k
theorem KpG.len (h : KpG w wr B o o' vs' ps qs gl gm il im v l n m u0 u1) : ∃ a c, l = .slice a n c := row_lenW h.r.1
theorem KpG.one (h : KpG w wr B o o' vs' ps qs gl gm il im v l n m u0 u1) (hb : Below wr.heap.size wr w1) (h' : w2.ownsRow 0 55 1 v' (gl.length + 1) (gl ++ [l])) (hgr : w1.grownBy w2 (vs' 2).ownBlock) (hat : ∀ g, v'.ownBlock = some g → (vs' 2).ownBlock = some g ∨ wr.heap.size ≤ g) (hle : gm.length ≤ gl.length) :
    KpG w (w2.setCell ⟨B, 2, none⟩ v') B o (o'.give wr.heap.size w2.heap.size 4) (fun i => if i = 2 then v' else vs' i) ps qs (gl ++ [l]) gm il im v l n m u0 u1 ∧ Is w2 B 30 #[vs' 0, vs' 1, vs' 2, vs' 3, vs' 4, vs' 5] := by
  obtain ⟨c1, c2, c3⟩ := h.c.grow (j := 2) (by decide) hb h' hgr hat
  rw [lsW2] at c1
  have old : ∀ i, i < wr.heap.size → o'.give wr.heap.size w2.heap.size 4 i = o' i := fun i hi => give_old hi
  have n8 : ∀ i, o' i = 1 ∨ o' i = 2 + 2 → o' i ≠ 8 := fun i hi => by omega
  have k1 := h.k.keep (o' := o'.give wr.heap.size w2.heap.size 4) c2 n8 (fun i hi e => (old i hi).trans e)
  refine ⟨⟨c1, ⟨fun i u z hu hz => ?_, k1.mi⟩, h.r.keepC c2 n8 (fun i hi e => (old i hi).trans e), fun u hu => ?_, h.hi, h.O.trans c2 fun i hi e => h.own hi (by rcases e with e | e <;> rw [e] <;> exact ⟨by decide, by decide⟩), fun i hi hn => (old i (Nat.lt_of_lt_of_le hi h.O.size)).trans (h.od i hi hn), h.e0, h.e1⟩, c3⟩
  · rcases Nat.lt_or_ge i gl.length with q | q
    · rw [List.getElem?_append_left q] at hu
      exact k1.mg i u z hu hz
    · rw [List.getElem?_eq_none (by omega)] at hz; cases hz
  · rcases List.mem_append.1 hu with q | q
    · exact h.hg u q
    · rw [List.mem_singleton.1 q]
      obtain ⟨a, c, e⟩ := h.len
      intro g' n' c' e' _
      rw [e] at e'
      simp only [Value.slice.injEq] at e'
      rw [e'.2.1]
      exact Nat.le_refl _
theorem KpG.two (h : KpG w wr B o o' vs' ps qs (gl ++ [l]) gm il im v l n m u0 u1) (hb : Below wr.heap.size wr w1) (h' : w2.ownsRow 0 3 1 v' (gm.length + 1) (icells gm ++ [.int .i64 m])) (hgr : w1.grownBy w2 (vs' 3).ownBlock) (hat : ∀ g, v'.ownBlock = some g → (vs' 3).ownBlock = some g ∨ wr.heap.size ≤ g) (hle : gm.length = gl.length) :
    KpG w (w2.setCell ⟨B, 3, none⟩ v') B o (o'.give wr.heap.size w2.heap.size 5) (fun i => if i = 3 then v' else vs' i) ps qs (gl ++ [l]) (gm ++ [m]) il im v l n m u0 u1 ∧ Is w2 B 30 #[vs' 0, vs' 1, vs' 2, vs' 3, vs' 4, vs' 5] := by
  obtain ⟨c1, c2, c3⟩ := h.c.grow (j := 3) (by decide) hb (by show w2.ownsRow 0 _ 1 v' ((icells gm).length + 1) (icells gm ++ [.int .i64 m]); rw [show (icells gm).length = gm.length from by unfold icells; rw [List.length_map]]; exact h') hgr hat
  rw [lsW3] at c1
  have old : ∀ i, i < wr.heap.size → o'.give wr.heap.size w2.heap.size 5 i = o' i := fun i hi => give_old hi
  have n8 : ∀ i, o' i = 1 ∨ o' i = 2 + 3 → o' i ≠ 8 := fun i hi => by omega
  have k1 := h.k.keep (o' := o'.give wr.heap.size w2.heap.size 5) c2 n8 (fun i hi e => (old i hi).trans e)
  have r1 := h.r.keepC (o' := o'.give wr.heap.size w2.heap.size 5) c2 n8 (fun i hi e => (old i hi).trans e)
  refine ⟨⟨c1, ⟨fun i u z hu hz => ?_, k1.mi⟩, r1, h.hg, h.hi, h.O.trans c2 fun i hi e => h.own hi (by rcases e with e | e <;> rw [e] <;> exact ⟨by decide, by decide⟩), fun i hi hn => (old i (Nat.lt_of_lt_of_le hi h.O.size)).trans (h.od i hi hn), h.e0, h.e1⟩, c3⟩
  rcases Nat.lt_or_ge i gm.length with q | q
  · rw [List.getElem?_append_left q] at hz
    exact k1.mg i u z hu hz
  · have e : i = gm.length := by
      rcases Nat.lt_or_ge gm.length i with c | c
      · rw [List.getElem?_eq_none (by rw [List.length_append]; simp; omega)] at hz; cases hz
      · omega
    subst e
    rw [List.getElem?_append_right (Nat.le_refl _), Nat.sub_self] at hz
    rw [hle, List.getElem?_append_right (Nat.le_refl _), Nat.sub_self] at hu
    have hz' : m = z := by simpa using hz
    have hu' : l = u := by simpa using hu
    rw [← hz', ← hu']
    exact mk_of (mk := mkG m) r1
theorem KpG.three (h : KpG w wr B o o' vs' ps qs gl gm il im v l n m u0 u1) (hb : Below wr.heap.size wr w1) (h' : w2.ownsRow 0 63 6 (.slice (some ⟨g, 0, none⟩) (n + 1) cap) (n + 1) (reps (mkG m) n ++ mkG m)) (hgr : w1.grownBy w2 l.ownBlock) (hat : l.ownBlock = some g ∨ (g = w1.heap.size ∧ Below w1.heap.size w1 w2)) (hlg : gl.length = gm.length) (hli : il.length = im.length) :
    KpG w w2 B o (o'.give wr.heap.size w2.heap.size 8) vs' ps qs gl gm il im v (.slice (some ⟨g, 0, none⟩) (n + 1) cap) (n + 1) m u0 u1 := by
  have hz : wr.heap.size ≤ w2.heap.size := Nat.le_trans hb.size hgr.size
  obtain ⟨k1, k2⟩ := h.r.grown hb h' hgr (fun g' hg' => by
    have e : g = g' := Option.some.inj hg'
    rcases hat with q | q
    · exact .inl (by rw [q, e])
    · exact .inr (by rw [← e, q.1]; exact hb.size))
  have old : ∀ i, i < wr.heap.size → o'.give wr.heap.size w2.heap.size 8 i = o' i := fun i hi => give_old hi
  have in8 : ∀ i, i < wr.heap.size → o' i = 8 → o'.give wr.heap.size w2.heap.size 8 i = 8 := fun i hi e => (old i hi).trans e
  have at1 : ∀ u ∈ gl, ∃ z, Mk wr o' 6 (mkG z) u := fun u hu => by
    obtain ⟨i, hi, e⟩ := List.getElem_of_mem hu
    exact ⟨_, h.k.mg i u (gm[i]'(by omega)) (by rw [← e]; exact List.getElem?_eq_getElem hi) (List.getElem?_eq_getElem _)⟩
  have at2 : ∀ u ∈ il, ∃ z, Mk wr o' 1 (mkI z) u := fun u hu => by
    obtain ⟨i, hi, e⟩ := List.getElem_of_mem hu
    exact ⟨_, h.k.mi i u (im[i]'(by omega)) (by rw [← e]; exact List.getElem?_eq_getElem hi) (List.getElem?_eq_getElem _)⟩
  have hd : ∀ {u : Value} {sv : Nat} {mk : List Value}, Mk wr o' sv mk u → Hd l n 6 u sv → Hd (.slice (some ⟨g, 0, none⟩) (n + 1) cap) (n + 1) 6 u sv := fun {u sv mk} hm hh g' n' c' e e' => by
    have eg : g = g' := Option.some.inj e'
    rcases hat with q | q
    · have := hh g' n' c' e (by rw [q, eg]); omega
    · rcases hm with hm | ⟨g2, n2, c2, e2, _, hlt, _⟩
      · rw [hm] at e; cases e
      · rw [e] at e2
        simp only [Value.slice.injEq, Option.some.injEq, Addr.mk.injEq] at e2
        have := e2.1.1
        have := hb.size
        omega
  refine ⟨h.c.keep k2 (fun i hi => by rw [hi]; omega) (fun i hi _ _ => old i hi) (give_free h.c.fr hz), ⟨fun i u z hu hm => ?_, fun i u z hu hm => ?_⟩, k1, fun u hu => ?_, fun u hu => ?_, h.O.trans k2 fun i hi e => h.own hi (by rw [e]; exact ⟨by decide, by decide⟩), fun i hi hn => (old i (Nat.lt_of_lt_of_le hi h.O.size)).trans (h.od i hi hn), h.e0, h.e1⟩
  · exact Mk.push (mk := mkG z) (h.k.mg i u z hu hm) hb h.r.1 h' hgr hat (h.hg u (List.mem_of_getElem? hu)) in8
  · exact Mk.push (mk := mkI z) (h.k.mi i u z hu hm) hb h.r.1 h' hgr hat (h.hi u (List.mem_of_getElem? hu)) in8
  · obtain ⟨z, hm⟩ := at1 u hu
    exact hd hm (h.hg u hu)
  · obtain ⟨z, hm⟩ := at2 u hu
    exact hd hm (h.hi u hu)
/-- At the start. -/
theorem KpG.start {vs : Nat → Value} (hO : Only (fun i => v.ownBlock = some i) w wr) (hc : WdC w B o vs (lsW ps qs gl gm il im)) (hk : Mks w o gl gm il im) (h0 : ∀ g, v.ownBlock = some g → o g = 0) (hr : wr.ownsRow 0 63 6 v n (reps (mkG m) n)) (hlg : gl.length = gm.length) (hli : il.length = im.length) :
    KpG w wr B o (fun i => if v.ownBlock = some i then 8 else o i) vs ps qs gl gm il im v v n m (vs 0) (vs 1) := by
  have ne : ∀ i, o i ≠ 0 → (fun i => if v.ownBlock = some i then 8 else o i) i = o i := fun i hi => if_neg fun c => hi (h0 i c)
  have nw : ∀ c, c ≠ 0 → ∀ i, v.ownBlock = some i → o i ≠ c := fun c hc i hi e => hc (by rw [← e, h0 i hi])
  have hd : ∀ {u : Value} {sv k : Nat} {mk : List Value}, Mk w o sv mk u → Hd v n k u sv := fun {u sv k mk} hm g' n' c' e e' => by
    rcases hm with hm | ⟨g2, n2, c2, e2, h8, _, _⟩
    · rw [hm] at e; cases e
    · rw [e] at e2
      simp only [Value.slice.injEq, Option.some.injEq, Addr.mk.injEq] at e2
      have := h0 g' e'
      rw [e2.1.1] at this
      omega
  refine ⟨hc.keep hO (fun i hi => by rw [h0 i hi]; omega) (fun i _ h1 _ => ne i (by omega)) (fun i hi => ?_), hk.keep hO (nw 8 (by decide)) (fun i _ e => (ne i (by omega)).trans e), ⟨hr, fun g hg => if_pos hg⟩, fun u hu => ?_, fun u hu => ?_, hO.mono fun i _ e => .inr e, fun i _ hn => if_neg hn, rfl, rfl⟩
  · show (if v.ownBlock = some i then 8 else o i) = 0
    rw [if_neg (fun c => by have := (ownsRow_lt hr i c).2; omega)]
    exact hc.fr i (Nat.le_trans hO.size hi)
  · obtain ⟨i, hi, e⟩ := List.getElem_of_mem hu
    exact hd (hk.mg i u (gm[i]'(by omega)) (by rw [← e]; exact List.getElem?_eq_getElem hi) (List.getElem?_eq_getElem _))
  · obtain ⟨i, hi, e⟩ := List.getElem_of_mem hu
    exact hd (hk.mi i u (im[i]'(by omega)) (by rw [← e]; exact List.getElem?_eq_getElem hi) (List.getElem?_eq_getElem _))
end
end Go.Proofs.YtcnmajndackohaaGreatDoor
/-
  Plain: a list written over with a mark, element by element.
-/
namespace Go.Proofs.YtcnmajndackohaaGreatDoor
open Go.RowKit
def mrk (m : Int) : Pk := ⟨m, 0, 0, 0, 0, false, false⟩
/-- The first i of a list are written over. -/
def ovr {α : Type} (X : List α) (u : α) (i : Nat) : List α := List.replicate i u ++ X.drop i
section
variable {α : Type} {X : List α} {u : α}
theorem ovr_len (i : Nat) (h : i ≤ X.length) : (ovr X u i).length = X.length := by unfold ovr; simp; omega
theorem ovr_set (i : Nat) (h : i < X.length) : (ovr X u i).set i u = ovr X u (i + 1) := by
  unfold ovr
  rw [List.set_append_right _ _ (by simp), List.length_replicate, Nat.sub_self, List.drop_eq_getElem_cons h, List.set_cons_zero, List.replicate_succ', List.append_assoc]
  rfl
theorem ovr_end : ovr X u X.length = List.replicate X.length u := by unfold ovr; rw [List.drop_length, List.append_nil]
end
theorem gcells_reps (m : Int) : ∀ n, gcells (List.replicate n (mrk m)) = reps (mkG m) n
  | 0 => rfl
  | n + 1 => by rw [List.replicate_succ', gcells_append, gcells_reps m n]; rfl
theorem icells_reps (m : Int) : ∀ n, icells (List.replicate n m) = reps (mkI m) n
  | 0 => rfl
  | n + 1 => by
    rw [List.replicate_succ']
    show (List.replicate n m ++ [m]).map _ = _
    rw [List.map_append]
    have := icells_reps m n
    unfold icells at this
    rw [this]
    rfl
theorem gcells_set (l : List Pk) : ∀ (k : Nat) (_ : k < l.length) (p : Pk), gcells (l.set k p) = ((((((gcells l).set (k * 6) (.int .i64 p.flow)).set (k * 6 + 1) (.int .i64 p.seq)).set (k * 6 + 2) (.int .i64 p.size)).set (k * 6 + 3) (.int .i64 p.ready)).set (k * 6 + 4) (.int .i64 p.start)).set (k * 6 + 5) (.int .i64 (p.start + p.size)) := by
  induction l with
  | nil => intro k h; exact absurd h (by simp)
  | cons s l ih =>
    intro k h p
    cases k with
    | zero => rfl
    | succ k =>
      have e0 : (k + 1) * 6 = k * 6 + 6 := by omega
      have e1 : (k + 1) * 6 + 1 = k * 6 + 1 + 6 := by omega
      have e2 : (k + 1) * 6 + 2 = k * 6 + 2 + 6 := by omega
      have e3 : (k + 1) * 6 + 3 = k * 6 + 3 + 6 := by omega
      have e4 : (k + 1) * 6 + 4 = k * 6 + 4 + 6 := by omega
      have e5 : (k + 1) * 6 + 5 = k * 6 + 5 + 6 := by omega
      rw [e1, e2, e3, e4, e5, e0]
      have := ih k (by simpa using h) p
      simp only [List.set_cons_succ, gcells, gcs, this]
      rfl
theorem gnc_at (l : List Pk) : ∀ (k : Nat) (h : k < l.length), (gcells l)[k * 6]? = some (.int .i64 l[k].flow) ∧ (gcells l)[k * 6 + 1]? = some (.int .i64 l[k].seq) ∧ (gcells l)[k * 6 + 2]? = some (.int .i64 l[k].size) ∧ (gcells l)[k * 6 + 3]? = some (.int .i64 l[k].ready) ∧ (gcells l)[k * 6 + 4]? = some (.int .i64 l[k].start) ∧ (gcells l)[k * 6 + 5]? = some (.int .i64 (l[k].start + l[k].size)) := by
  induction l with
  | nil => intro k h; exact absurd h (by simp)
  | cons p l ih =>
    intro k h
    cases k with
    | zero => exact ⟨rfl, rfl, rfl, rfl, rfl, rfl⟩
    | succ k =>
      have := ih k (by simpa using h)
      have e : (k + 1) * 6 = k * 6 + 6 := by omega
      rw [e]
      simpa [gcells, gcs] using this
section
variable {w : World} {g n cap k : Nat} {X : List Pk}
theorem own_mark (h : w.ownsRow 0 63 6 (.slice (some ⟨g, 0, none⟩) n cap) n (gcells X)) (hk : k < X.length) (m : Int) :
    ((((((w.setCell ⟨g, k * 6, none⟩ (.int .i64 m)).setCell ⟨g, k * 6 + 1, none⟩ (.int .i64 0)).setCell ⟨g, k * 6 + 2, none⟩ (.int .i64 0)).setCell ⟨g, k * 6 + 3, none⟩ (.int .i64 0)).setCell ⟨g, k * 6 + 4, none⟩ (.int .i64 0)).setCell ⟨g, k * 6 + 5, none⟩ (.int .i64 0)).ownsRow 0 63 6 (.slice (some ⟨g, 0, none⟩) n cap) n (gcells (X.set k (mrk m))) := by
  rw [gcells_set X k hk]
  exact ownsRow_setN (ownsRow_setN (ownsRow_setN (ownsRow_setN (ownsRow_setN (ownsRow_setN h)))))
theorem only_mark {w0 : World} {S : Nat → Prop} (h : Only S w0 w) (hg : S g) (m : Int) :
    Only S w0 ((((((w.setCell ⟨g, k * 6, none⟩ (.int .i64 m)).setCell ⟨g, k * 6 + 1, none⟩ (.int .i64 0)).setCell ⟨g, k * 6 + 2, none⟩ (.int .i64 0)).setCell ⟨g, k * 6 + 3, none⟩ (.int .i64 0)).setCell ⟨g, k * 6 + 4, none⟩ (.int .i64 0)).setCell ⟨g, k * 6 + 5, none⟩ (.int .i64 0)) :=
  (((((h.setCell (.inl hg)).setCell (.inl hg)).setCell (.inl hg)).setCell (.inl hg)).setCell (.inl hg)).setCell (.inl hg)
theorem own_markI {z : List Int} (h : w.ownsRow 0 3 1 (.slice (some ⟨g, 0, none⟩) n cap) n (icells z)) (m : Int) :
    (w.setCell ⟨g, k, none⟩ (.int .i64 m)).ownsRow 0 3 1 (.slice (some ⟨g, 0, none⟩) n cap) n (icells (z.set k m)) := by
  have := ownsRow_setN (k := k) (v := .int .i64 m) h
  unfold icells at this ⊢
  rwa [List.map_set]
theorem own_free {t : TypeId} {size b : Nat} {cs : List Value} (h : w.ownsRow b t size (.slice (some ⟨g, 0, none⟩) n cap) n cs) (k : Nat) : w.frozen? ⟨g, k, none⟩ = false := by
  rcases h.2 with ⟨e, _⟩ | ⟨g', cap', cur, e1, e2, e3, _⟩
  · cases e
  · simp only [Value.slice.injEq, Option.some.injEq, Addr.mk.injEq] at e1
    obtain ⟨⟨rfl, _, _⟩, _⟩ := e1
    exact Is.frozen e3 k
end
end Go.Proofs.YtcnmajndackohaaGreatDoor
/-
  The law's world, read.
-/
namespace Go.Proofs.YtcnmajndackohaaGreatDoor
open Go.RowKit
section
variable {w : World} {B : Nat} {o : Whose} {vs : Nat → Value} {ls : Nat → List Value} {v : Value} {m : Int}
theorem WdC.below {w' : World} (h : WdC w B o vs ls) (hb : Below w.heap.size w w') : WdC w' B o vs ls := h.keep (Only.of_below (S := fun _ => False) hb) (fun _ k => k.elim) (fun _ _ _ _ => rfl) (fun i hi => h.fr i (Nat.le_trans hb.size hi))
theorem WdC.len (h : WdC w B o vs ls) (j : Nat) (hj : j < 6) : ∃ a c, vs j = .slice a (ls j).length c := row_lenW (h.rw j hj).1
theorem WdC.at (h : WdC w B o vs ls) (j : Nat) (hj : j < 6) {i : Nat} {u : Value} (hu : (ls j)[i]? = some u) : ∃ g c, vs j = .slice (some ⟨g, 0, none⟩) (ls j).length c ∧ g < w.heap.size ∧ w.cell? ⟨g, i, none⟩ = some u := by
  have hi : i < (ls j).length := (List.getElem?_eq_some_iff.1 hu).1
  have hr := (h.rw j hj).1
  obtain ⟨g, c, e, _, hlt⟩ := World.ownsRow.form hr (by omega)
  rw [e] at hr
  exact ⟨g, c, e, hlt, own_cell hr hu⟩
theorem Mk.gone (h : Mk w o 6 (mkG m) v) : ∃ a n c, v = .slice a n c ∧ n ≤ maxLen ∧ ∀ k, k < n → ∃ g, a = some ⟨g, 0, none⟩ ∧ g < w.heap.size ∧ w.cell? ⟨g, k * 6, none⟩ = some (.int .i64 m) ∧ w.cell? ⟨g, k * 6 + 1, none⟩ = some (.int .i64 0) ∧ w.cell? ⟨g, k * 6 + 2, none⟩ = some (.int .i64 0) ∧ w.cell? ⟨g, k * 6 + 3, none⟩ = some (.int .i64 0) ∧ w.cell? ⟨g, k * 6 + 4, none⟩ = some (.int .i64 0) ∧ w.cell? ⟨g, k * 6 + 5, none⟩ = some (.int .i64 0) := by
  rcases h with e | ⟨g, n, cap, e, _, hg, hn, hm⟩
  · exact ⟨none, 0, 0, e, Nat.zero_le _, fun k hk => absurd hk (Nat.not_lt_zero _)⟩
  · exact ⟨_, n, cap, e, hn, fun k hk => ⟨g, rfl, hg, hm k hk 0 _ rfl, hm k hk 1 _ rfl, hm k hk 2 _ rfl, hm k hk 3 _ rfl, hm k hk 4 _ rfl, hm k hk 5 _ rfl⟩⟩
theorem Mk.ints (h : Mk w o 1 (mkI m) v) : ∃ a n c, v = .slice a n c ∧ n ≤ maxLen ∧ ∀ k, k < n → ∃ g, a = some ⟨g, 0, none⟩ ∧ g < w.heap.size ∧ w.cell? ⟨g, k, none⟩ = some (.int .i64 m) := by
  rcases h with e | ⟨g, n, cap, e, _, hg, hn, hm⟩
  · exact ⟨none, 0, 0, e, Nat.zero_le _, fun k hk => absurd hk (Nat.not_lt_zero _)⟩
  · refine ⟨_, n, cap, e, hn, fun k hk => ⟨g, rfl, hg, ?_⟩⟩
    have := hm k hk 0 _ rfl
    rwa [Nat.mul_one] at this
end
end Go.Proofs.YtcnmajndackohaaGreatDoor
/-
  What keep does.
-/
namespace Go.Proofs.YtcnmajndackohaaGreatDoor
open Go.RowKit
theorem infoGn : (Tryz.prog.info? 63).map (fun i => (i.zero, i.size, i.bytes)) = some (some (.agg #[.int .i64 0, .int .i64 0, .int .i64 0, .int .i64 0, .int .i64 0, .int .i64 0]), 6, 48) := by kernel_rfl
theorem infoIntW : (Tryz.prog.info? 3).map (fun i => (i.zero, i.size, i.bytes)) = some (some (.int .i64 0), 1, 8) := by kernel_rfl
theorem infoLG : (Tryz.prog.info? 55).map (fun i => (i.zero, i.size, i.bytes)) = some (some (.slice none 0 0), 1, 24) := by kernel_rfl
set_option maxRecDepth 100000 in
set_option maxHeartbeats 4000000 in
theorem keep_any (w : World) (B : Nat) (o : Whose) (vs : Nat → Value) (ps qs : List Nat) (gl : List Value) (gm : List Int) (il : List Value) (im : List Int) (v : Value) (X : List Pk)
    (hc : WdC w B o vs (lsW ps qs gl gm il im)) (hk : Mks w o gl gm il im) (hr : w.ownsRow 0 63 6 v X.length (gcells X)) (h0 : ∀ g, v.ownBlock = some g → o g = 0) (hlg : gl.length = gm.length) (hli : il.length = im.length) (hX : X.length ≤ 1000000000) (hg9 : gl.length ≤ 1000000000) :
    Calls Tryz.prog 107 #[.pointer (some ⟨B, 0, none⟩), v] w fun e w' => e = .returned (.tuple #[]) ∧ ∃ o' vs' gl' gm', WdC w' B o' vs' (lsW ps qs gl' gm' il im) ∧ Mks w' o' gl' gm' il im ∧ gl'.length = gl.length + 4 ∧ gm'.length = gl.length + 4 ∧ Only (fun i => own8 (o i) ∨ v.ownBlock = some i) w w' ∧ (∀ i, i < w.heap.size → v.ownBlock ≠ some i → o' i = o i) ∧ vs' 0 = vs 0 ∧ vs' 1 = vs 1 := by
  obtain ⟨a, c, rfl⟩ := row_lenW hr
  obtain ⟨a3, c3, h3⟩ := hc.len 3 (by decide)
  have q3 : w.cell? ⟨B, 3, none⟩ = some (vs 3) := hc.blk.cell (j := 3) rfl
  rw [h3] at q3
  rw [show (lsW ps qs gl gm il im 3).length = gm.length from by show (icells gm).length = _; unfold icells; rw [List.length_map]] at q3
  obtain ⟨i0, hi0, hz0, hz1, hz2⟩ := info_anyR infoLG
  obtain ⟨i1, hi1, hy0, hy1, hy2⟩ := info_anyR infoIntW
  obtain ⟨i2, hi2, hx0, hx1, hx2⟩ := info_anyR infoGn
  have HI0 := hide hi0
  have HZ0 := hide hz0
  have HZ1 := hide hz1
  have HZ2 := hide hz2
  have HI1 := hide hi1
  have HY0 := hide hy0
  have HY1 := hide hy1
  have HY2 := hide hy2
  have HI2 := hide hi2
  have HX0 := hide hx0
  have HX1 := hide hx1
  have HX2 := hide hx2
  obtain ⟨n, hn⟩ : ∃ n, X.length = n := ⟨_, rfl⟩
  obtain ⟨m3, hm3⟩ : ∃ m3, gm.length = m3 := ⟨_, rfl⟩
  rw [hn] at hr hX h0 ⊢
  rw [hm3] at q3 hlg
  have HSt := hide (fun (wr : World) (m : Int) (hO : Only (fun i => (Value.slice a n c).ownBlock = some i) w wr) (hr : wr.ownsRow 0 63 6 (.slice a n c) n (reps (mkG m) n)) => KpG.start (n := n) (m := m) hO hc hk h0 hr (hlg.trans hm3.symm) hli)
  have HR := hide hr
  have HN := hide hn
  have HM := hide hm3
  have HLi := hide hli
  have HLg := hide hlg
  have hm9 : (m3 : Int) ≤ 1000000000 := by omega
  have hg10 : gl.length = m3 := hlg
  clear hc hk hr h3 hi0 hz0 hz1 hz2 hi1 hy0 hy1 hy2 hi2 hx0 hx1 hx2 hn hm3 hli hlg h0
  go_enter Tryz.func107, Tryz.ntmps107
  go_wp2_with fail
  have hM0 : -2000000000 ≤ (-1000 - (m3 : Int)) := by omega
  generalize (-1000 - (m3 : Int)) = M at *
  go_loopw [5] (fun i wr => ∃ k : Nat, k ≤ n ∧ i = .int .i64 k ∧ wr.ownsRow 0 63 6 (.slice a n c) n (gcells (ovr X (mrk M) k)) ∧ Only (fun i => (Value.slice a n c).ownBlock = some i) w wr) (fun i _ => n - (intOf i).toNat)
  case atStart => exact ⟨0, Nat.zero_le _, rfl, unhide HR, Only.refl _ _⟩
  case round =>
    obtain ⟨k, hk, rfl, hrow, hon⟩ := hrel
    have HRow := hide hrow
    have HOn := hide hon
    by_cases hlt : k < n
    · have hkx : k < X.length := by rw [unhide HN]; exact hlt
      have hko : k < (ovr X (mrk M) k).length := by rw [ovr_len k (by omega)]; exact hkx
      obtain ⟨g, c', hv, _, hgl⟩ := World.ownsRow.form hrow (by omega)
      simp only [Value.slice.injEq] at hv
      obtain ⟨rfl, _, rfl⟩ := hv
      obtain ⟨u0, u1, u2, u3, u4, u5⟩ := gnc_at (ovr X (mrk M) k) k hko
      have q0 := own_cell hrow u0
      have q1 := own_cell hrow u1
      have q2 := own_cell hrow u2
      have q4 := own_cell hrow u3
      have q5 := own_cell hrow u4
      have q6 := own_cell hrow u5
      have z := own_free hrow
      have hi1 : (k : Int) < (n : Int) := by omega
      have HSet := hide (ovr_set (u := mrk M) k hkx)
      have HMk := hide (own_mark hrow hko M)
      have HOk := hide (only_mark (k := k) (g := g) hon rfl M)
      rw [unhide HSet] at HMk
      clear hrow hon HSet
      generalize (ovr X (mrk M) k)[k] = pk at *
      clear u0 u1 u2 u3 u4 u5 hko hkx
      go_wp2_with fail
      go_roundw
      case rel => exact ⟨k + 1, by omega, by go_num, unhide HMk, unhide HOk⟩
      case measure => simp [intOf]; omega
    · have hkn : k = n := by omega
      subst hkn
      have hrep : wr.ownsRow 0 63 6 (.slice a k c) k (reps (mkG M) k) := by
        have h1 := hrow
        have e : ovr X (mrk M) k = List.replicate k (mrk M) := by rw [← unhide HN]; exact ovr_end
        rw [e, gcells_reps] at h1
        exact h1
      have HS0 := hide (unhide HSt wr M hon hrep)
      clear hrow hon hrep HSt HRow HR HOn
      go_wp2_with fail
      go_loopw [1, 6] (fun l i w0 => ∃ (j : Nat) (o' : Whose) (vs' : Nat → Value) (gl' : List Value) (gm' : List Int), i = .int .i64 (j : Int) ∧ j ≤ 4 ∧ gl'.length = m3 + j ∧ gm'.length = m3 + j ∧ KpG w w0 B o o' vs' ps qs gl' gm' il im (.slice a k c) l (k + j) M (vs 0) (vs 1)) (fun _ i _ => 4 - (intOf i).toNat)
      case atStart => exact ⟨0, _, vs, gl, gm, rfl, by decide, unhide HLg, unhide HM, unhide HS0⟩
      case round =>
        obtain ⟨j, o', vs', gl', gm', rfl, hj, hl1, hl2, hK⟩ := hrel
        clear HS0
        by_cases hj4 : j < 4
        · obtain ⟨al, cl, hal⟩ := hK.len
          subst hal
          obtain ⟨a2, c2, h2⟩ := hK.c.len 2 (by decide)
          obtain ⟨a4, c4, h4⟩ := hK.c.len 3 (by decide)
          have e2 : (lsW ps qs gl' gm' il im 2).length = m3 + j := hl1
          have e3 : (lsW ps qs gl' gm' il im 3).length = m3 + j := by show (icells gm').length = _; unfold icells; rw [List.length_map]; exact hl2
          rw [e2] at h2
          rw [e3] at h4
          have q2 : wr.cell? ⟨B, 2, none⟩ = some (.slice a2 (m3 + j) c2) := by rw [← h2]; exact hK.c.blk.cell (j := 2) rfl
          have HR2 := hide (show wr.ownsRow 0 55 1 (.slice a2 (m3 + j) c2) (m3 + j) gl' from by have h1 := (hK.c.rw 2 (by decide)).1; rw [h2, e2] at h1; exact h1)
          have HK := hide hK
          have HL1 := hide hl1
          have HL2 := hide hl2
          have HE2 := hide h2
          have HE4 := hide h4
          clear hK hl1 hl2 h2 h4 e2 e3
          go_wp2_with (at_builtin; refine wpList_append_lies _ (by rfl) _ _ 26 (by rfl) 0 55 i0 _ 1 24 Tryz.underlying26 (unhide HI0) (unhide HZ0) (unhide HZ1) (unhide HZ2) rfl (by omega) _ (m3 + j) gl' (by rfl) ((unhide HR2).alloc _) ⟨wr.heap.size, 0, none⟩ 1 1 [.slice al (k + j) cl] (by rfl) (by rfl) (World.news_of_block (cs := #[.slice al (k + j) cl]) (t := 55) (fr := (0, 0)) (heap_alloc_new wr _)) (by simp [Value.oneCell']) (by omega) (by unfold maxLen; omega) (by omega) (Nat.zero_le _) (wr.heap.size + 1) (by simp) ?_)
          intro g5 cap5 w5 hown hgrow hat hlt5
          have hX1 := (unhide HK).one (bel_one _) (by rw [unhide HL1]; exact hown) (by rw [unhide HE2]; exact hgrow) (fun g' hg' => by
            rw [unhide HE2]
            exact hat.imp (fun e => e.trans hg') (fun e => by have e' : g5 = g' := Option.some.inj hg'; omega)) (by rw [unhide HL1, unhide HL2]; exact Nat.le_refl _)
          have c5 : w5.cell? ⟨B, 2, none⟩ = some (vs' 2) := hX1.2.cell (j := 2) rfl
          have z5 := hX1.2.frozen 2
          have HX := hide hX1.1
          have q7 : (w5.setCell ⟨B, 2, none⟩ (.slice (some ⟨g5, 0, none⟩) (m3 + j + 1) cap5)).cell? ⟨B, 3, none⟩ = some (.slice a4 (m3 + j) c4) := by rw [← unhide HE4]; exact hX1.1.c.blk.cell (j := 3) rfl
          have HR3 := hide (show (w5.setCell ⟨B, 2, none⟩ (.slice (some ⟨g5, 0, none⟩) (m3 + j + 1) cap5)).ownsRow 0 3 1 (.slice a4 (m3 + j) c4) (m3 + j) (icells gm') from by
            have h1 := (hX1.1.c.rw 3 (by decide)).1
            have h2 : (w5.setCell ⟨B, 2, none⟩ (.slice (some ⟨g5, 0, none⟩) (m3 + j + 1) cap5)).ownsRow 0 3 1 (vs' 3) (icells gm').length (icells gm') := h1
            rw [unhide HE4, show (icells gm').length = m3 + j from by unfold icells; rw [List.length_map]; exact unhide HL2] at h2
            exact h2)
          clear hX1 hown hgrow hat hlt5 q2 HR2
          go_wp2_with (at_builtin; refine wpList_append_lies _ (by rfl) _ _ 27 (by rfl) 0 3 i1 _ 1 8 Tryz.underlying27 (unhide HI1) (unhide HY0) (unhide HY1) (unhide HY2) rfl (by omega) _ (m3 + j) (icells gm') (by rfl) ((unhide HR3).alloc _) ⟨w5.heap.size, 0, none⟩ 1 1 [.int .i64 M] (by rfl) (by rfl) (World.news_of_block (cs := #[.int .i64 M]) (t := 3) (fr := (0, 0)) (by have := heap_alloc_new (w5.setCell ⟨B, 2, none⟩ (.slice (some ⟨g5, 0, none⟩) (m3 + j + 1) cap5)) (.cells #[.int .i64 M] 3); rwa [set_sz] at this)) (by simp [Value.oneCell']) (by omega) (by unfold maxLen; omega) (by omega) (Nat.zero_le _) (w5.heap.size + 1) (by simp) ?_)
          generalize hw6 : w5.setCell ⟨B, 2, none⟩ (.slice (some ⟨g5, 0, none⟩) (m3 + j + 1) cap5) = w6 at *
          have hs6 : w6.heap.size = w5.heap.size := by rw [← hw6, set_sz]
          intro g7 cap7 w7 hown hgrow hat hlt7
          have hX2 := (unhide HX).two (bel_one _) (by rw [unhide HL2]; exact hown) (by show (w6.alloc _).grownBy w7 (vs' 3).ownBlock; rw [unhide HE4]; exact hgrow) (fun g' hg' => by
            show (vs' 3).ownBlock = _ ∨ _
            rw [unhide HE4]
            exact hat.imp (fun e => e.trans hg') (fun e => by have e' : g7 = g' := Option.some.inj hg'; omega)) (by rw [unhide HL1, unhide HL2])
          have c7 : w7.cell? ⟨B, 3, none⟩ = some (vs' 3) := hX2.2.cell (j := 3) rfl
          have z7 := hX2.2.frozen 3
          have HS2 := hide hX2.1
          have HR4 := hide hX2.1.r.1
          clear hX2 hown hgrow hat hlt7 q7 HR3 c5 z5 HX hw6
          go_wp2_with (at_builtin; refine wpList_append_far _ (by rfl) _ _ 55 (by rfl) 63 i2 _ 6 48 Tryz.underlying55 (unhide HI2) (unhide HX0) (unhide HX1) (unhide HX2) rfl (by omega) _ (k + j) (reps (mkG M) (k + j)) (by rfl) ((unhide HR4).alloc _) ⟨w7.heap.size, 0, none⟩ 1 1 (mkG M) (by rfl) (by rfl) (World.news_of_block (cs := #[.int .i64 M, .int .i64 0, .int .i64 0, .int .i64 0, .int .i64 0, .int .i64 0]) (t := 63) (fr := (0, 0)) (by have := heap_alloc_new (w7.setCell ⟨B, 3, none⟩ (.slice (some ⟨g7, 0, none⟩) (m3 + j + 1) cap7)) (.cells #[.int .i64 M, .int .i64 0, .int .i64 0, .int .i64 0, .int .i64 0, .int .i64 0] 63); rwa [set_sz] at this)) (by simp [mkG, Value.oneCell']) (by omega) (by unfold maxLen; omega) (by omega) ?_)
          generalize hw8 : w7.setCell ⟨B, 3, none⟩ (.slice (some ⟨g7, 0, none⟩) (m3 + j + 1) cap7) = w8 at *
          have hs8 : w8.heap.size = w7.heap.size := by rw [← hw8, set_sz]
          intro g9 cap9 w9 hown hgrow hat hlt9
          have HS3 := hide ((unhide HS2).three (bel_one _) hown hgrow (by rw [World.size_alloc, hs8]; exact hat) (by rw [List.length_append, List.length_append, unhide HL1, unhide HL2]; rfl) (unhide HLi))
          clear hown hgrow hat hlt9 HS2 HR4 c7 z7 hw8
          go_wp2_with fail
          go_roundw
          case rel => exact ⟨j + 1, _, _, _, _, by go_num, by omega, by rw [List.length_append, unhide HL1]; rfl, by rw [List.length_append, unhide HL2]; rfl, unhide HS3⟩
          case measure => simp [intOf]; omega
        · have hj5 : j = 4 := by omega
          subst hj5
          have HK := hide hK
          clear hK
          go_wp2_with fail
          go_end0
          exact ⟨rfl, _, _, gl', gm', (unhide HK).c, (unhide HK).k, by omega, by omega, (unhide HK).O, (unhide HK).od, (unhide HK).e0, (unhide HK).e1⟩
end Go.Proofs.YtcnmajndackohaaGreatDoor
