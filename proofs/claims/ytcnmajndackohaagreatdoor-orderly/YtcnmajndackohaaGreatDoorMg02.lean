import Derived.Test.YtcnmajndackohaaGreatDoorMg01
import Derived.Test.YtcnmajndackohaaGreatDoorRows
import Derived.ProofKit
import Derived.Handy
import Derived.Lay
import Derived.Carry
import Derived.Lib.SmallJoins
import Derived.Stop.LaidTwo
import Derived.MakeChecks
/-
  Plain: lists of flows, what of all of them may come, the least violation.
-/
namespace Go.Proofs.YtcnmajndackohaaGreatDoor

/-- A flow's numbers. -/
structure Fl where
  s : Int
  p : Int
  b : Int
  r : Int
  d : Int
def Fl.may (f : Fl) : Prop := May f.s f.p f.b f.r f.d
def Fl.e (f : Fl) (t : Int) : Int := allow f.s f.p f.b f.r (t - f.d)
/-- What of all flows may come by the tick t. -/
def tot (t : Int) : List Fl → Int
  | [] => 0
  | f :: l => f.e t + tot t l
theorem tot_append (t : Int) (l m : List Fl) : tot t (l ++ m) = tot t l + tot t m := by
  induction l with
  | nil => simp [tot]
  | cons f l ih => simp only [List.cons_append, tot, ih]; omega
theorem tot_take_succ (t : Int) (l : List Fl) (k : Nat) (h : k < l.length) : tot t (l.take (k + 1)) = tot t (l.take k) + (l[k]'h).e t := by
  rw [List.take_succ_eq_append_getElem h, tot_append]; simp [tot]
theorem e_bd {f : Fl} (h : f.may) (t : Int) (t1 : t ≤ 100000) : 0 ≤ f.e t ∧ f.e t ≤ 101000 := by
  unfold Fl.e
  by_cases g : t - f.d < 0
  · rw [allow_neg _ _ _ _ _ g]; omega
  · have := allow_rate h (x := t - f.d) (by omega)
    obtain ⟨s0, s1, b0, b1, r0, p0, p1, d0, d1⟩ := h
    have m2 : f.p * (t - f.d) ≤ 1200000 := by
      have := Int.mul_le_mul p1 (show t - f.d ≤ 100000 by omega) (by omega) (by decide); omega
    omega
theorem tot_bd {l : List Fl} (h : ∀ f ∈ l, f.may) (t : Int) (t1 : t ≤ 100000) : 0 ≤ tot t l ∧ tot t l ≤ 101000 * l.length := by
  induction l with
  | nil => simp [tot]
  | cons f l ih =>
    have a := ih fun g hg => h g (List.mem_cons_of_mem _ hg)
    have b := e_bd (h f (List.mem_cons_self ..)) t t1
    simp only [tot, List.length_cons]; omega

/-- Is the tick t a violation? -/
def vioB (l : List Fl) (t : Int) : Bool := decide (0 < tot t l) && decide (t < tot t l + 7)
/-- The least violation among n ticks from t on; 0: there is none. -/
def seek (l : List Fl) : Nat → Int → Int
  | 0, _ => 0
  | n + 1, t => if vioB l t = true then t else seek l n (t + 1)
def viol (l : List Fl) : Int := seek l 1300 1
theorem seek_spec (l : List Fl) (n : Nat) : ∀ t : Int, 0 < t → (seek l n t = 0 ∧ ∀ u, t ≤ u → u < t + n → vioB l u = false) ∨ (t ≤ seek l n t ∧ seek l n t < t + n ∧ vioB l (seek l n t) = true ∧ ∀ u, t ≤ u → u < seek l n t → vioB l u = false) := by
  induction n with
  | zero => intro t _; left; exact ⟨rfl, fun u h1 h2 => by omega⟩
  | succ n ih =>
    intro t ht
    by_cases hv : vioB l t = true
    · right
      have : seek l (n + 1) t = t := by simp [seek, hv]
      rw [this]; exact ⟨by omega, by omega, hv, fun u h1 h2 => by omega⟩
    · have e : seek l (n + 1) t = seek l n (t + 1) := by simp [seek, hv]
      rw [e]
      have hv' : vioB l t = false := by simpa using hv
      rcases ih (t + 1) (by omega) with ⟨h1, h2⟩ | ⟨h1, h2, h3, h4⟩
      · left; exact ⟨h1, fun u a b => by
          by_cases e : u = t
          · rw [e]; exact hv'
          · exact h2 u (by omega) (by omega)⟩
      · right; exact ⟨by omega, by omega, h3, fun u a b => by
          by_cases e : u = t
          · rw [e]; exact hv'
          · exact h4 u (by omega) b⟩
theorem viol_spec (l : List Fl) : (viol l = 0 ∧ ∀ u, 1 ≤ u → u ≤ 1300 → vioB l u = false) ∨ (1 ≤ viol l ∧ viol l ≤ 1300 ∧ vioB l (viol l) = true ∧ ∀ u, 1 ≤ u → u < viol l → vioB l u = false) := by
  rcases seek_spec l 1300 1 (by decide) with ⟨h1, h2⟩ | ⟨h1, h2, h3, h4⟩
  · left; exact ⟨h1, fun u a b => h2 u a (by omega)⟩
  · right; exact ⟨h1, by unfold viol; omega, h3, h4⟩
theorem seek_step_no {l : List Fl} {n : Nat} {t : Int} (h : vioB l t = false) : seek l (n + 1) t = seek l n (t + 1) := by simp [seek, h]
theorem seek_step_yes {l : List Fl} {n : Nat} {t : Int} (h : vioB l t = true) : seek l (n + 1) t = t := by simp [seek, h]
/-- One that may be, out of raw numbers. -/
def mk (f : Fl) : Fl := ⟨2 + pk f.s 7, pk f.r 13 + pk f.p (13 - pk f.r 13), 2 + pk f.s 7 + pk f.b (31 - (2 + pk f.s 7)), pk f.r 13, 2 + pk f.s 7 + pk f.d (101 - (2 + pk f.s 7))⟩
theorem mk_may (f : Fl) : (mk f).may := by
  obtain ⟨s, p, b, r, d⟩ := f
  have a0 := pk_nonneg s 7 (by decide)
  have a1 := pk_lt s 7 (by decide)
  have q0 := pk_nonneg r 13 (by decide)
  have q1 := pk_lt r 13 (by decide)
  have u0 := pk_nonneg b (31 - (2 + pk s 7)) (by omega)
  have u1 := pk_lt b (31 - (2 + pk s 7)) (by omega)
  have x0 := pk_nonneg p (13 - pk r 13) (by omega)
  have x1 := pk_lt p (13 - pk r 13) (by omega)
  have y0 := pk_nonneg d (101 - (2 + pk s 7)) (by omega)
  have y1 := pk_lt d (101 - (2 + pk s 7)) (by omega)
  unfold Fl.may mk
  constructor <;> dsimp only <;> omega
theorem map_take_succ (l : List Fl) (k : Nat) (h : k < l.length) : (l.take (k + 1)).map mk = (l.take k).map mk ++ [mk (l[k]'h)] := by
  rw [List.take_succ_eq_append_getElem h, List.map_append]; rfl
theorem viol_range (l : List Fl) : 0 ≤ viol l ∧ viol l ≤ 1300 := by
  rcases viol_spec l with ⟨h, _⟩ | ⟨h1, h2, _⟩ <;> omega
end Go.Proofs.YtcnmajndackohaaGreatDoor
/-
  Numbers that an int holds, and flows of them.
-/
namespace Go.Proofs.YtcnmajndackohaaGreatDoor

structure R64 (x : Int) : Prop where
  lo : -9223372036854775808 ≤ x
  hi : x ≤ 9223372036854775807
structure Raw (f : Fl) : Prop where
  s : R64 f.s
  p : R64 f.p
  b : R64 f.b
  r : R64 f.r
  d : R64 f.d
end Go.Proofs.YtcnmajndackohaaGreatDoor
/-
  What the call's beginning gives: a flow that came in, opened; the two sentinels that are laid.
-/
namespace Go.Proofs.YtcnmajndackohaaGreatDoor
open Go.ChangeShapes Go.WideShapes Go.ChangeAt Go.RowKit Go.Joins Go.Deep

theorem own : ownKnob Tryz.prog.godebug = none := by kernel_rfl
theorem laidOut : laidOutB Tryz.prog = true := by kernel_rfl
theorem cellsFlow : Tryz.prog.cellsOf 35 = 5 := by kernel_rfl
theorem cellsInt : Tryz.prog.cellsOf 3 = 1 := by kernel_rfl
theorem r64_of_wf {x : Int} (h : Lit.wf (.int .i64 x) = true) : R64 x := by
  have : -9223372036854775808 ≤ x ∧ x ≤ 9223372036854775807 := by simpa [Lit.wf, IntKind.min, IntKind.max, IntKind.signed, IntKind.bits] using h
  exact ⟨this.1, this.2⟩
theorem list5 {α : Type} {l : List α} (h : l.length = 5) : ∃ c0 c1 c2 c3 c4, l = [c0, c1, c2, c3, c4] := by
  match l, h with
  | [c0, c1, c2, c3, c4], _ => exact ⟨c0, c1, c2, c3, c4, rfl⟩

section
variable {H : Type} {enc : TypeId × Value → H} {P : Program} {w : World} {base : Nat} {spare : Nat → Bool} {held : Bool}
theorem trod_struct5 {t : TypeId} {f0 f1 f2 f3 f4 : Field} {fuel : Nat} {cs : List Value} {x : DataW H × List MemPlace} (ht : P.underlying t = some (.struct #[f0, f1, f2, f3, f4])) (h : DataW.trod enc P w base spare held fuel t cs = some x) :
    ∃ y0 y1 y2 y3 y4 n, x = (.agg [y0.1, y1.1, y2.1, y3.1, y4.1], y0.2 ++ (y1.2 ++ (y2.2 ++ (y3.2 ++ y4.2)))) ∧ cs.length = P.cellsOf t ∧ DataW.trod enc P w base spare held n f0.type ((cs.drop f0.offset).take (P.cellsOf f0.type)) = some y0 ∧
      DataW.trod enc P w base spare held n f1.type ((cs.drop f1.offset).take (P.cellsOf f1.type)) = some y1 ∧ DataW.trod enc P w base spare held n f2.type ((cs.drop f2.offset).take (P.cellsOf f2.type)) = some y2 ∧
      DataW.trod enc P w base spare held n f3.type ((cs.drop f3.offset).take (P.cellsOf f3.type)) = some y3 ∧ DataW.trod enc P w base spare held n f4.type ((cs.drop f4.offset).take (P.cellsOf f4.type)) = some y4 := by
  obtain ⟨xs, n, _, rfl, hl, hlen, hf⟩ := DataW.trod_struct ht h
  match xs, hlen with
  | [y0, y1, y2, y3, y4], _ => exact ⟨y0, y1, y2, y3, y4, n, by simp, hl, by simpa using hf 0 f0 rfl, by simpa using hf 1 f1 rfl, by simpa using hf 2 f2 rfl, by simpa using hf 3 f3 rfl, by simpa using hf 4 f4 rfl⟩
theorem cells_agg5 {t : TypeId} {f0 f1 f2 f3 f4 : Field} {fuel : Nat} {cs : List Value} {x : DataW H × List MemPlace} (hs : P.underlying t = some (.struct #[f0, f1, f2, f3, f4])) (hone : oneCellFields P #[f0, f1, f2, f3, f4] = true) (hC : P.cellsOf t = 5)
    (h : DataW.trod enc P w base spare held fuel t cs = some x) :
    ∃ (c0 c1 c2 c3 c4 : Value) (y0 y1 y2 y3 y4 : DataW H × List MemPlace) (n : Nat), cs = [c0, c1, c2, c3, c4] ∧ x = (.agg [y0.1, y1.1, y2.1, y3.1, y4.1], y0.2 ++ (y1.2 ++ (y2.2 ++ (y3.2 ++ y4.2)))) ∧
      DataW.trod enc P w base spare held n f0.type [c0] = some y0 ∧ DataW.trod enc P w base spare held n f1.type [c1] = some y1 ∧ DataW.trod enc P w base spare held n f2.type [c2] = some y2 ∧ DataW.trod enc P w base spare held n f3.type [c3] = some y3 ∧ DataW.trod enc P w base spare held n f4.type [c4] = some y4 := by
  obtain ⟨y0, y1, y2, y3, y4, n, hx, hl, h0, h1, h2, h3, h4⟩ := trod_struct5 hs h
  obtain ⟨c0, c1, c2, c3, c4, rfl⟩ := list5 (hl.trans hC)
  obtain ⟨o0, k0⟩ := hone_of hone 0 f0 rfl
  obtain ⟨o1, k1⟩ := hone_of hone 1 f1 rfl
  obtain ⟨o2, k2⟩ := hone_of hone 2 f2 rfl
  obtain ⟨o3, k3⟩ := hone_of hone 3 f3 rfl
  obtain ⟨o4, k4⟩ := hone_of hone 4 f4 rfl
  exact ⟨c0, c1, c2, c3, c4, y0, y1, y2, y3, y4, n, rfl, hx, by simpa [o0, k0] using h0, by simpa [o1, k1] using h1, by simpa [o2, k2] using h2, by simpa [o3, k3] using h3, by simpa [o4, k4] using h4⟩
theorem struct_form {r : Reach} {b0 : Nat} {t : TypeId} {fs : Array Field} {v : Value} (hs : P.underlying t = some (.struct fs)) (hv : Value.okWide P w r b0 t v) : ∃ l : List Value, v = .agg ⟨l⟩ := by
  obtain ⟨⟨l⟩, rfl, _⟩ := okWide_struct hs hv
  exact ⟨l, rfl⟩
end

/-- Five cells that read as a flow are five numbers, and the datum holds them. -/
theorem flow_cells {H : Type} {enc : TypeId × Value → H} {w : World} {base : Nat} {spare : Nat → Bool} {held : Bool} {fuel : Nat} {cs : List Value} {x : DataW H × List MemPlace}
    (h : DataW.trod enc Tryz.prog w base spare held fuel 35 cs = some x) :
    ∃ s p b r d : Int, cs = [.int .i64 s, .int .i64 p, .int .i64 b, .int .i64 r, .int .i64 d] ∧ x = (.agg [.lit (.int .i64 s), .lit (.int .i64 p), .lit (.int .i64 b), .lit (.int .i64 r), .lit (.int .i64 d)], []) ∧ R64 s ∧ R64 p ∧ R64 b ∧ R64 r ∧ R64 d := by
  obtain ⟨c0, c1, c2, c3, c4, y0, y1, y2, y3, y4, n, rfl, rfl, h0, h1, h2, h3, h4⟩ := cells_agg5 Tryz.underlying35 (by kernel_rfl) cellsFlow h
  obtain ⟨s, e0, rfl, w0⟩ := DataW.trod_int Tryz.underlying3 h0
  obtain ⟨p, e1, rfl, w1⟩ := DataW.trod_int Tryz.underlying3 h1
  obtain ⟨b, e2, rfl, w2⟩ := DataW.trod_int Tryz.underlying3 h2
  obtain ⟨r, e3, rfl, w3⟩ := DataW.trod_int Tryz.underlying3 h3
  obtain ⟨d, e4, rfl, w4⟩ := DataW.trod_int Tryz.underlying3 h4
  simp only [List.cons.injEq, and_true] at e0 e1 e2 e3 e4
  subst e0 e1 e2 e3 e4
  exact ⟨s, p, b, r, d, rfl, rfl, r64_of_wf w0, r64_of_wf w1, r64_of_wf w2, r64_of_wf w3, r64_of_wf w4⟩

set_option maxRecDepth 100000 in
theorem open_flow {H : Type} {enc : TypeId × Value → H} {w : World} {rr : Reach} {b0 : Nat} {base : Nat} {spare : Nat → Bool} {held : Bool} {v : Value} {x : DataW H} {pl : List MemPlace}
    (hv : Value.okWide Tryz.prog w rr b0 35 v) (h : DataW.Trod enc Tryz.prog w base spare held 35 v x pl) :
    ∃ s p b r d : Int, v = .agg #[.int .i64 s, .int .i64 p, .int .i64 b, .int .i64 r, .int .i64 d] ∧ pl = [] ∧ R64 s ∧ R64 p ∧ R64 b ∧ R64 r ∧ R64 d := by
  obtain ⟨l, rfl⟩ := struct_form Tryz.underlying35 hv
  obtain ⟨fuel, hf⟩ := h
  obtain ⟨s, p, b, r, d, e, ex, k⟩ := flow_cells hf
  simp only [Prod.mk.injEq] at ex
  refine ⟨s, p, b, r, d, ?_, ex.2, k⟩
  have e' : l = [.int .i64 s, .int .i64 p, .int .i64 b, .int .i64 r, .int .i64 d] := e
  rw [e']

theorem gArg : Tryz.prog.globalNamed "towpath/fault.ErrArg" = some 0 := by kernel_rfl
theorem gArgType : (Tryz.prog.globals[0]?).map (·.type) = some 66 := by kernel_rfl
theorem gFull : Tryz.prog.globalNamed "towpath/fault.ErrFull" = some 1 := by kernel_rfl
theorem gFullType : (Tryz.prog.globals[1]?).map (·.type) = some 66 := by kernel_rfl
theorem gLate : Tryz.prog.globalNamed "towpath/fault.ErrLate" = some 2 := by kernel_rfl
theorem gLateType : (Tryz.prog.globals[2]?).map (·.type) = some 66 := by kernel_rfl
theorem gNone : Tryz.prog.globalNamed "towpath/fault.ErrNone" = some 3 := by kernel_rfl
theorem gNoneType : (Tryz.prog.globals[3]?).map (·.type) = some 66 := by kernel_rfl
theorem gSize : Tryz.prog.globalNamed "towpath/fault.ErrSize" = some 4 := by kernel_rfl
theorem gSizeType : (Tryz.prog.globals[4]?).map (·.type) = some 66 := by kernel_rfl
theorem gQuota : Tryz.prog.globalNamed "towpath/fault.ErrQuota" = some 5 := by kernel_rfl
theorem gQuotaType : (Tryz.prog.globals[5]?).map (·.type) = some 66 := by kernel_rfl
theorem star : "*" ++ "errors.errorString" = "*errors.errorString" := by decide
theorem rowErr (u : TypeId) (h : Tryz.prog.typeName? 3 u = some "*errors.errorString") : u = 242 :=
  typeName_ptr_named (nm := "errors.errorString") (by rw [star]; kernel_rfl) (by kernel_rfl) (by decide) u (by rw [star]; exact h)
theorem cellsES : Tryz.prog.cellsOf 263 = 1 := by kernel_rfl
theorem cellsStr : Tryz.prog.cellsOf 9 = 1 := by kernel_rfl

/-- Six sentinels of one type: six pointers. -/
theorem laid_six {P : Program} {n0 n1 n2 n3 n4 n5 nm : String} {x0 x1 x2 x3 x4 x5 : List UInt8} {W : World} {g0 g1 g2 g3 g4 g5 : Nat} {ti tp te ts : TypeId} {ms : Array (String × TypeId)} {f : Field}
    (h : laidMet P [(n0, .iface nm (.ptr (.agg [.lit (.string x0)]))), (n1, .iface nm (.ptr (.agg [.lit (.string x1)]))), (n2, .iface nm (.ptr (.agg [.lit (.string x2)]))), (n3, .iface nm (.ptr (.agg [.lit (.string x3)]))), (n4, .iface nm (.ptr (.agg [.lit (.string x4)]))), (n5, .iface nm (.ptr (.agg [.lit (.string x5)])))] W)
    (hg0 : P.globalNamed n0 = some g0) (ht0 : (P.globals[g0]?).map (·.type) = some ti)
    (hg1 : P.globalNamed n1 = some g1) (ht1 : (P.globals[g1]?).map (·.type) = some ti)
    (hg2 : P.globalNamed n2 = some g2) (ht2 : (P.globals[g2]?).map (·.type) = some ti)
    (hg3 : P.globalNamed n3 = some g3) (ht3 : (P.globals[g3]?).map (·.type) = some ti)
    (hg4 : P.globalNamed n4 = some g4) (ht4 : (P.globals[g4]?).map (·.type) = some ti)
    (hg5 : P.globalNamed n5 = some g5) (ht5 : (P.globals[g5]?).map (·.type) = some ti)
    (hi : P.underlying ti = some (.interface ms)) (hrow : ∀ u, P.typeName? 3 u = some nm → u = tp) (hp : P.underlying tp = some (.pointer te)) (he : P.underlying te = some (.struct #[f])) (hft : f.type = ts) (hfo : f.offset = 0) (hs : P.underlying ts = some .string) (hc : P.cellsOf te = 1) (hcs : P.cellsOf ts = 1) :
    ∃ (a0 a1 a2 a3 a4 a5 : Addr), W.cell? ⟨g0, 0, none⟩ = some (.iface tp (.pointer (some a0))) ∧ W.cell? ⟨g1, 0, none⟩ = some (.iface tp (.pointer (some a1))) ∧ W.cell? ⟨g2, 0, none⟩ = some (.iface tp (.pointer (some a2))) ∧ W.cell? ⟨g3, 0, none⟩ = some (.iface tp (.pointer (some a3))) ∧ W.cell? ⟨g4, 0, none⟩ = some (.iface tp (.pointer (some a4))) ∧ W.cell? ⟨g5, 0, none⟩ = some (.iface tp (.pointer (some a5))) ∧ (∃ c t, W.heap[a0.block]? = some (.cells c t (0, 0))) ∧ (∃ c t, W.heap[a1.block]? = some (.cells c t (0, 0))) ∧ (∃ c t, W.heap[a2.block]? = some (.cells c t (0, 0))) ∧ (∃ c t, W.heap[a3.block]? = some (.cells c t (0, 0))) ∧ (∃ c t, W.heap[a4.block]? = some (.cells c t (0, 0))) ∧ (∃ c t, W.heap[a5.block]? = some (.cells c t (0, 0))) ∧ [a0, a1, a2, a3, a4, a5].Nodup := by
  obtain ⟨ps, ⟨g0', t0', cs0, f0, p0, q0, hg0', ht0', hv0, hd0, ⟨g1', t1', cs1, f1, p1, q1, hg1', ht1', hv1, hd1, ⟨g2', t2', cs2, f2, p2, q2, hg2', ht2', hv2, hd2, ⟨g3', t3', cs3, f3, p3, q3, hg3', ht3', hv3, hd3, ⟨g4', t4', cs4, f4, p4, q4, hg4', ht4', hv4, hd4, ⟨g5', t5', cs5, f5, p5, q5, hg5', ht5', hv5, hd5, _, e5⟩, e4⟩, e3⟩, e2⟩, e1⟩, e0⟩, hnd, hrows⟩ := h
  obtain rfl := Option.some.inj (hg0.symm.trans hg0')
  obtain rfl := Option.some.inj (ht0.symm.trans ht0')
  obtain rfl := Option.some.inj (hg1.symm.trans hg1')
  obtain rfl := Option.some.inj (ht1.symm.trans ht1')
  obtain rfl := Option.some.inj (hg2.symm.trans hg2')
  obtain rfl := Option.some.inj (ht2.symm.trans ht2')
  obtain rfl := Option.some.inj (hg3.symm.trans hg3')
  obtain rfl := Option.some.inj (ht3.symm.trans ht3')
  obtain rfl := Option.some.inj (hg4.symm.trans hg4')
  obtain rfl := Option.some.inj (ht4.symm.trans ht4')
  obtain rfl := Option.some.inj (hg5.symm.trans hg5')
  obtain rfl := Option.some.inj (ht5.symm.trans ht5')
  subst e5 e4 e3 e2 e1 e0
  obtain ⟨l0⟩ := cs0
  obtain ⟨l1⟩ := cs1
  obtain ⟨l2⟩ := cs2
  obtain ⟨l3⟩ := cs3
  obtain ⟨l4⟩ := cs4
  obtain ⟨l5⟩ := cs5
  have ok0 : ∀ u v, l0 = [.iface u v] → Value.okWide P W .any 0 u v := fun u v e => by
    subst e
    exact (hrows g0 0 (by simp [MemPlace.row])).2 u v (by simpa using World.var?_cell hg0' hv0 0)
  have ok1 : ∀ u v, l1 = [.iface u v] → Value.okWide P W .any 0 u v := fun u v e => by
    subst e
    exact (hrows g1 0 (by simp [MemPlace.row])).2 u v (by simpa using World.var?_cell hg1' hv1 0)
  have ok2 : ∀ u v, l2 = [.iface u v] → Value.okWide P W .any 0 u v := fun u v e => by
    subst e
    exact (hrows g2 0 (by simp [MemPlace.row])).2 u v (by simpa using World.var?_cell hg2' hv2 0)
  have ok3 : ∀ u v, l3 = [.iface u v] → Value.okWide P W .any 0 u v := fun u v e => by
    subst e
    exact (hrows g3 0 (by simp [MemPlace.row])).2 u v (by simpa using World.var?_cell hg3' hv3 0)
  have ok4 : ∀ u v, l4 = [.iface u v] → Value.okWide P W .any 0 u v := fun u v e => by
    subst e
    exact (hrows g4 0 (by simp [MemPlace.row])).2 u v (by simpa using World.var?_cell hg4' hv4 0)
  have ok5 : ∀ u v, l5 = [.iface u v] → Value.okWide P W .any 0 u v := fun u v e => by
    subst e
    exact (hrows g5 0 (by simp [MemPlace.row])).2 u v (by simpa using World.var?_cell hg5' hv5 0)
  obtain ⟨a0, s0, rfl, _, _, _, rfl⟩ := errorString_of_trod hi hrow hp he hft hfo hs hc hcs hd0 ok0
  obtain ⟨a1, s1, rfl, _, _, _, rfl⟩ := errorString_of_trod hi hrow hp he hft hfo hs hc hcs hd1 ok1
  obtain ⟨a2, s2, rfl, _, _, _, rfl⟩ := errorString_of_trod hi hrow hp he hft hfo hs hc hcs hd2 ok2
  obtain ⟨a3, s3, rfl, _, _, _, rfl⟩ := errorString_of_trod hi hrow hp he hft hfo hs hc hcs hd3 ok3
  obtain ⟨a4, s4, rfl, _, _, _, rfl⟩ := errorString_of_trod hi hrow hp he hft hfo hs hc hcs hd4 ok4
  obtain ⟨a5, s5, rfl, _, _, _, rfl⟩ := errorString_of_trod hi hrow hp he hft hfo hs hc hcs hd5 ok5
  obtain ⟨c0, t0, hb0⟩ := (hrows a0.block a0.off (by simp [MemPlace.row])).1
  obtain ⟨c1, t1, hb1⟩ := (hrows a1.block a1.off (by simp [MemPlace.row])).1
  obtain ⟨c2, t2, hb2⟩ := (hrows a2.block a2.off (by simp [MemPlace.row])).1
  obtain ⟨c3, t3, hb3⟩ := (hrows a3.block a3.off (by simp [MemPlace.row])).1
  obtain ⟨c4, t4, hb4⟩ := (hrows a4.block a4.off (by simp [MemPlace.row])).1
  obtain ⟨c5, t5, hb5⟩ := (hrows a5.block a5.off (by simp [MemPlace.row])).1
  refine ⟨a0, a1, a2, a3, a4, a5, by simpa using World.var?_cell hg0' hv0 0, by simpa using World.var?_cell hg1' hv1 0, by simpa using World.var?_cell hg2' hv2 0, by simpa using World.var?_cell hg3' hv3 0, by simpa using World.var?_cell hg4' hv4 0, by simpa using World.var?_cell hg5' hv5 0, ⟨_, _, hb0⟩, ⟨_, _, hb1⟩, ⟨_, _, hb2⟩, ⟨_, _, hb3⟩, ⟨_, _, hb4⟩, ⟨_, _, hb5⟩, ?_⟩
  rw [List.nodup_iff_pairwise_ne]
  simp only [List.pairwise_cons, List.mem_cons, List.not_mem_nil, or_false, false_implies, implies_true, List.Pairwise.nil, and_true, forall_eq_or_imp, forall_eq]
  refine ⟨⟨?_, ?_, ?_, ?_, ?_⟩, ⟨?_, ?_, ?_, ?_⟩, ⟨?_, ?_, ?_⟩, ⟨?_, ?_⟩, ?_⟩ <;> (rintro rfl; simp [MemPlace.row] at hnd)
/-- The package's errors, as they are laid. -/
def sixL : List (String × DataW Unit) := [("towpath/fault.ErrArg", Rows.laid_towpath_fault_ErrArg), ("towpath/fault.ErrFull", Rows.laid_towpath_fault_ErrFull), ("towpath/fault.ErrLate", Rows.laid_towpath_fault_ErrLate), ("towpath/fault.ErrNone", Rows.laid_towpath_fault_ErrNone), ("towpath/fault.ErrSize", Rows.laid_towpath_fault_ErrSize), ("towpath/fault.ErrQuota", Rows.laid_towpath_fault_ErrQuota)]
set_option maxRecDepth 100000 in
theorem snt_of {W : World} (h : laidMetH Tryz.prog sixL W) : ∃ a, Snt W a := by
  rw [MakeChecks.laidMetH_plain _ _ _ (by kernel_rfl)] at h
  obtain ⟨a0, a1, a2, a3, a4, a5, c0, c1, c2, c3, c4, c5, h0, h1, h2, h3, h4, h5, hn⟩ := laid_six h gArg gArgType gFull gFullType gLate gLateType gNone gNoneType gSize gSizeType gQuota gQuotaType Tryz.underlying66 rowErr Tryz.underlying242 Tryz.underlying263 rfl rfl Tryz.underlying9 cellsES cellsStr
  rw [List.nodup_iff_pairwise_ne] at hn
  simp only [List.pairwise_cons, List.mem_cons, List.not_mem_nil, or_false, false_implies, implies_true, List.Pairwise.nil, and_true, forall_eq_or_imp, forall_eq] at hn
  obtain ⟨⟨n1, n2, n3, n4, n5⟩, ⟨n6, n7, n8, n9⟩, ⟨n10, n11, n12⟩, ⟨n13, n14⟩, n15⟩ := hn
  refine ⟨fun g => if g = 0 then a0 else if g = 1 then a1 else if g = 2 then a2 else if g = 3 then a3 else if g = 4 then a4 else a5, ?_, ?_, ?_⟩
  · intro g hg
    simp only [sents, List.mem_cons, List.not_mem_nil, or_false] at hg
    rcases hg with rfl | rfl | rfl | rfl | rfl | rfl
    · exact c0
    · exact c1
    · exact c2
    · exact c3
    · exact c4
    · exact c5
  · intro g hg
    simp only [sents, List.mem_cons, List.not_mem_nil, or_false] at hg
    rcases hg with rfl | rfl | rfl | rfl | rfl | rfl
    · exact h0
    · exact h1
    · exact h2
    · exact h3
    · exact h4
    · exact h5
  · intro g hg g' hg' hne
    simp only [sents, List.mem_cons, List.not_mem_nil, or_false] at hg hg'
    rcases hg with rfl | rfl | rfl | rfl | rfl | rfl <;> rcases hg' with rfl | rfl | rfl | rfl | rfl | rfl <;> first | exact absurd rfl hne | assumption | exact Ne.symm (by assumption)
theorem size_of_cell {W : World} {b o : Nat} {v : Value} (h : W.cell? ⟨b, o, none⟩ = some v) : b < W.heap.size := World.block_lt_of_cell? _ _ h
end Go.Proofs.YtcnmajndackohaaGreatDoor
