/-
  A row of flows of the call's own, known whole; what lend does.
-/
import Derived.Test.YtcnmajndackohaaGreatDoorCells
import Derived.Test.YtcnmajndackohaaGreatDoorFit
import Derived.OwnWalk
import Derived.Laws.CopyOwn
namespace Go.Proofs.YtcnmajndackohaaGreatDoor
open Go.RowKit

/-- Block g is a row of just the flows L. -/
def Blk (w : World) (g : Nat) (L : List Fl) : Prop := w.heap[g]? = some (.cells (fcells L).toArray 35 (0, 0))
theorem Blk.lt {w : World} {g : Nat} {L : List Fl} (h : Blk w g L) : g < w.heap.size := lt_of_heap h
theorem Blk.cell {w : World} {g : Nat} {L : List Fl} (h : Blk w g L) (j : Nat) (u : Value) (hu : (fcells L)[j]? = some u) : w.cell? ⟨g, j, none⟩ = some u := by
  have h' : w.heap[g]? = some (.cells (fcells L).toArray 35 (0, 0)) := h
  rw [cell_of_row w g j _ _ _ h']
  simpa using hu
theorem Blk.lies {w : World} {g : Nat} {L : List Fl} (h : Blk w g L) : Lies w g 0 L := by
  refine ⟨h.lt, ?_, ?_, ?_, ?_, ?_⟩
  all_goals intro k hk
  all_goals rw [Nat.zero_add]
  · exact h.cell _ _ (fcells_at L k hk).1
  · exact h.cell _ _ (fcells_at L k hk).2.1
  · exact h.cell _ _ (fcells_at L k hk).2.2.1
  · exact h.cell _ _ (fcells_at L k hk).2.2.2.1
  · exact h.cell _ _ (fcells_at L k hk).2.2.2.2
theorem Blk.frozen {w : World} {g : Nat} {L : List Fl} (h : Blk w g L) (o : Nat) : w.frozen? ⟨g, o, none⟩ = false := by
  have h' : w.heap[g]? = some (.cells (fcells L).toArray 35 (0, 0)) := h
  simp [World.frozen?, h']
theorem Blk.below {w w' : World} {g : Nat} {L : List Fl} (h : Blk w g L) (hb : Below w.heap.size w w') : Blk w' g L := (hb.block g h.lt).trans h
theorem row_set {w : World} {g o : Nat} {cs : Array Value} {t : TypeId} {v : Value} (h : w.heap[g]? = some (.cells cs t (0, 0))) : (w.setCell ⟨g, o, none⟩ v).heap[g]? = some (.cells (cs.setIfInBounds o v) t (0, 0)) := by
  rw [setCell_eq_setRow w g o cs t (0, 0) v h]
  exact setRow_heap w g cs _ t (0, 0) h
theorem Blk.store {w : World} {g k : Nat} {L : List Fl} {x : Fl} (h : Blk w g L) (hk : k < L.length) :
    Blk (((((w.setCell ⟨g, k * 5, none⟩ (.int .i64 x.s)).setCell ⟨g, k * 5 + 1, none⟩ (.int .i64 x.p)).setCell ⟨g, k * 5 + 2, none⟩ (.int .i64 x.b)).setCell ⟨g, k * 5 + 3, none⟩ (.int .i64 x.r)).setCell ⟨g, k * 5 + 4, none⟩ (.int .i64 x.d)) g (L.set k x) := by
  have h' : w.heap[g]? = some (.cells (fcells L).toArray 35 (0, 0)) := h
  have := row_set (o := k * 5 + 4) (v := .int .i64 x.d) (row_set (o := k * 5 + 3) (v := .int .i64 x.r) (row_set (o := k * 5 + 2) (v := .int .i64 x.b) (row_set (o := k * 5 + 1) (v := .int .i64 x.p) (row_set (o := k * 5) (v := .int .i64 x.s) h'))))
  unfold Blk
  rw [this, fcells_set L x k hk]
  simp
theorem below_store {w0 w : World} {g k : Nat} {x : Fl} (h : Below w0.heap.size w0 w) (hg : w0.heap.size ≤ g) :
    Below w0.heap.size w0 (((((w.setCell ⟨g, k * 5, none⟩ (.int .i64 x.s)).setCell ⟨g, k * 5 + 1, none⟩ (.int .i64 x.p)).setCell ⟨g, k * 5 + 2, none⟩ (.int .i64 x.b)).setCell ⟨g, k * 5 + 3, none⟩ (.int .i64 x.r)).setCell ⟨g, k * 5 + 4, none⟩ (.int .i64 x.d)) :=
  ((((h.setCell hg _).setCell hg _).setCell hg _).setCell hg _).setCell hg _

def zf : Fl := ⟨0, 0, 0, 0, 0⟩
theorem made_zero (n : Nat) : (madeCells (Value.cells (.agg #[.int .i64 0, .int .i64 0, .int .i64 0, .int .i64 0, .int .i64 0])) (n * 5)).toList = fcells (List.replicate n zf) := by
  apply List.ext_getElem?
  intro j
  have hl : (fcells (List.replicate n zf)).length = n * 5 := by rw [fcells_length]; simp
  by_cases hj : j < n * 5
  · have e := fcells_at (List.replicate n zf) (j / 5) (by simp; omega)
    simp only [List.getElem_replicate] at e
    have hm : (madeCells (Value.cells (.agg #[.int .i64 0, .int .i64 0, .int .i64 0, .int .i64 0, .int .i64 0])) (n * 5)).toList[j]? = some (.int .i64 0) := by
      simp [madeCells, Value.cells, hj]
      have : j % 5 = 0 ∨ j % 5 = 1 ∨ j % 5 = 2 ∨ j % 5 = 3 ∨ j % 5 = 4 := by omega
      rcases this with h | h | h | h | h <;> simp [h]
    rw [hm]
    have : j = j / 5 * 5 ∨ j = j / 5 * 5 + 1 ∨ j = j / 5 * 5 + 2 ∨ j = j / 5 * 5 + 3 ∨ j = j / 5 * 5 + 4 := by omega
    rcases this with h | h | h | h | h
    · rw [h]; exact e.1.symm
    · rw [h]; exact e.2.1.symm
    · rw [h]; exact e.2.2.1.symm
    · rw [h]; exact e.2.2.2.1.symm
    · rw [h]; exact e.2.2.2.2.symm
  · rw [List.getElem?_eq_none (by simp [madeCells]; omega), List.getElem?_eq_none (by omega)]
theorem infoFl : (Tryz.prog.info? 35).map (fun i => (i.zero, i.size, i.bytes)) = some (some (.agg #[.int .i64 0, .int .i64 0, .int .i64 0, .int .i64 0, .int .i64 0]), 5, 40) := by kernel_rfl
theorem run_copy5 (w : World) (dT sT ty elem : TypeId) (g dLen dCap : Nat) (a : Addr) (sLen sCap : Nat) (cur : Array Value) (t : TypeId) (cs : List Value) (P : Program)
    (hu : P.underlying dT = some (.slice elem)) (hs : (P.info? elem).map (·.size) = some 5)
    (hg : w.heap[g]? = some (.cells cur t (0, 0))) (hn : cs.length = sLen * 5) (hle : sLen ≤ dLen)
    (hsrc : ∀ j v, cs[j]? = some v → w.cell? (a.add j) = some v) (hfit : cs.length ≤ cur.size) (h1 : ∀ v ∈ cs, v.oneCell' = true) :
    (Builtin.copy_ #[dT, sT] ty #[.slice (some ⟨g, 0, none⟩) dLen dCap, .slice (some a) sLen sCap]).run P w =
      .ok (goInt sLen) (w.setRow g (cs ++ cur.toList.drop cs.length).toArray) := by
  have hl := run_loadCells_list (P := P) w a cs hsrc
  have hst := run_storeCells_at P g 0 t cs 0 cur w hg (by simpa using hfit) h1
  have hmin : Nat.min sLen dLen = sLen := Nat.min_eq_left hle
  cases hq : P.info? elem with
  | none => simp [hq] at hs
  | some i =>
    have hi : i.size = 5 := by simpa [hq] using hs
    rw [hn] at hl
    simp at hst
    simp [Builtin.copy_, run_underlying hu, Builtin.lenOf, Builtin.firstCells, sizeOf, typeInfo, hq, hi, hmin, hl, hst]
theorem wpList_copy5 {P : Program} {w : World} {ops : Array Oper} {rest : List Oper} {o : Oper} {a : Act} {Q : Exit → Act → World → Prop} (hgd : o.guard = none) (d s : Operand) (dT sT : TypeId)
    (ho : o.op = .call { callee := .builtin .copy, args := #[d, s], argTypes := #[dT, sT] }) (elem : TypeId) (hu : P.underlying dT = some (.slice elem)) (hsz : (P.info? elem).map (·.size) = some 5)
    (g dLen dCap : Nat) (ad : Addr) (sLen sCap : Nat) (hd : a.eval d = .slice (some ⟨g, 0, none⟩) dLen dCap) (hs : a.eval s = .slice (some ad) sLen sCap)
    (cur : Array Value) (t : TypeId) (hg : w.heap[g]? = some (.cells cur t (0, 0))) (cs : List Value) (hn : cs.length = sLen * 5) (hle : sLen ≤ dLen)
    (hsrc : ∀ j v, cs[j]? = some v → w.cell? (ad.add j) = some v) (hfit : cs.length ≤ cur.size) (h1 : ∀ v ∈ cs, v.oneCell' = true)
    (h : wpList P ops Q rest (a.put o.dst (goInt sLen)) (w.setRow g (cs ++ cur.toList.drop cs.length).toArray)) : wpList P ops Q (o :: rest) a w := by
  refine wpList_plain hgd fun K hK => ?_
  have hrun := run_copy5 w dT sT o.type elem g dLen dCap ad sLen sCap cur t cs P hu hsz hg hn hle hsrc hfit h1
  unfold Oper.wp
  simp [execOp, ho, resolve, invoke, builtin, hd, hs, hrun, Result.andThen]
  exact hK _ _ h

/-- What lies behind a list that is handed in. -/
def spare (k : Nat) : List Fl := (List.range k).map fun (i : Nat) => ⟨77, 0, 0, 0, (i : Int)⟩
theorem spare_succ (k : Nat) : spare (k + 1) = spare k ++ [⟨77, 0, 0, 0, (k : Int)⟩] := by unfold spare; rw [List.range_succ, List.map_append]; rfl
theorem spare_len (k : Nat) : (spare k).length = k := by simp [spare]
/-- The row that is lent, behind k rounds. -/
def lentTo (l : List Fl) (k : Nat) : List Fl := l ++ (spare k ++ List.replicate (8 - k) zf)
theorem lentTo_len (l : List Fl) (k : Nat) (h : k ≤ 8) : (lentTo l k).length = l.length + 8 := by unfold lentTo; simp [spare_len]; omega
theorem lentTo_set (l : List Fl) (k : Nat) (h : k < 8) : (lentTo l k).set (l.length + k) ⟨77, 0, 0, 0, (k : Int)⟩ = lentTo l (k + 1) := by
  unfold lentTo
  rw [List.set_append_right _ _ (by omega), show l.length + k - l.length = k by omega, List.set_append_right _ _ (by rw [spare_len]; omega), spare_len, Nat.sub_self, spare_succ]
  rw [show 8 - k = (8 - (k + 1)) + 1 by omega, List.replicate_succ]
  simp
theorem lentTo_eight (l : List Fl) : lentTo l 8 = l ++ spare 8 := by unfold lentTo; simp
theorem fcells_one (l : List Fl) : ∀ v ∈ fcells l, v.oneCell' = true := by
  induction l with
  | nil => intro v hv; simp [fcells] at hv
  | cons f l ih =>
    intro v hv
    simp only [fcells, List.mem_cons] at hv
    rcases hv with h | h | h | h | h | h
    · subst h; rfl
    · subst h; rfl
    · subst h; rfl
    · subst h; rfl
    · subst h; rfl
    · exact ih v h
theorem lies_src {w : World} {b o : Nat} {l : List Fl} (h : Lies w b o l) : ∀ j v, (fcells l)[j]? = some v → w.cell? ((⟨b, o, none⟩ : Addr).add j) = some v := by
  intro j v hv
  have hj : j < l.length * 5 := by
    rcases Nat.lt_or_ge j (l.length * 5) with g | g
    · exact g
    · rw [List.getElem?_eq_none (by rw [fcells_length]; exact g)] at hv; cases hv
  have hadd : (⟨b, o, none⟩ : Addr).add j = ⟨b, o + j, none⟩ := by unfold Addr.add; split <;> simp_all
  rw [hadd]
  have hk : j / 5 < l.length := by omega
  have e := fcells_at l (j / 5) hk
  have : j = j / 5 * 5 ∨ j = j / 5 * 5 + 1 ∨ j = j / 5 * 5 + 2 ∨ j = j / 5 * 5 + 3 ∨ j = j / 5 * 5 + 4 := by omega
  rcases this with q | q | q | q | q
  · have hv' := hv; rw [q, e.1] at hv'; rw [q, ← hv']; exact h.c0 _ hk
  · have hv' := hv; rw [q, e.2.1] at hv'; rw [q, ← hv', ← Nat.add_assoc]; exact h.c1 _ hk
  · have hv' := hv; rw [q, e.2.2.1] at hv'; rw [q, ← hv', ← Nat.add_assoc]; exact h.c2 _ hk
  · have hv' := hv; rw [q, e.2.2.2.1] at hv'; rw [q, ← hv', ← Nat.add_assoc]; exact h.c3 _ hk
  · have hv' := hv; rw [q, e.2.2.2.2] at hv'; rw [q, ← hv', ← Nat.add_assoc]; exact h.c4 _ hk
end Go.Proofs.YtcnmajndackohaaGreatDoor
