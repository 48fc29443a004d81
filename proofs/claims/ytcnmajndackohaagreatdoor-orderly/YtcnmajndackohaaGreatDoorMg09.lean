import Derived.Test.YtcnmajndackohaaGreatDoorMg05
import Derived.Test.YtcnmajndackohaaGreatDoorMg08
import Derived.Test.YtcnmajndackohaaGreatDoorMg04
import Derived.Deep.RegionLaw
import Derived.Test.YtcnmajndackohaaGreatDoorMg01
import Derived.Test.YtcnmajndackohaaGreatDoorMg02
/-
  What the calls of a line do, as the others use it: a line's memory holds what the document's line is.
-/
namespace Go.Proofs.YtcnmajndackohaaGreatDoor
open Go.RowKit

/-- The cells of a packet that has gone. -/
def gcs (p : Pk) : List Value := [.int .i64 p.flow, .int .i64 p.seq, .int .i64 p.size, .int .i64 p.ready, .int .i64 p.start, .int .i64 (p.start + p.size)]
def gcells : List Pk → List Value
  | [] => []
  | p :: l => gcs p ++ gcells l
/-- How many packets of flows have not begun. -/
def Ln.waits (x : Ln) : Nat := x.pk.countP fun p => decide (0 ≤ p.flow) && decide (p.start < 0) && !p.dropped
/-- The numbers of the flows that are so. -/
def Ln.ids (x : Ln) (is : Int) : List Nat := (List.range x.fl.length).filter fun k => decide (isOf x.fl k = is)
def ncells (l : List Nat) : List Value := l.map fun (k : Nat) => .int .i64 (k : Int)

/-- The program's calls do what the document's line does. R w P x F: the line at block P is x; F are its blocks. -/
structure LineJ (W : World) (R : World → Nat → Ln → (Nat → Prop) → Prop) : Prop where
  ge : ∀ {w P x F}, R w P x F → ∀ i, F i → W.heap.size ≤ i ∧ i < w.heap.size
  inv : ∀ {w P x F}, R w P x F → Lnv x
  keep : ∀ {w w' P x F} {S : Nat → Prop}, R w P x F → Only S w w' → (∀ i, S i → ¬ F i) → R w' P x F
  new : ∀ (w : World) (v : Value) (l : List Fl), Below W.heap.size W w → Fls w v l → (∀ f ∈ l, f.may) → l.length ≤ 6 →
    Calls Tryz.prog 32 #[v] w fun e w' => ∃ P F, e = .returned (.tuple #[.pointer (some ⟨P, 0, none⟩), .int .i64 0]) ∧ R w' P (Ln.new l) F ∧ (∀ i, F i → w.heap.size ≤ i) ∧ Below w.heap.size w w'
  send : ∀ (w : World) (P : Nat) (x : Ln) (F : Nat → Prop) (n : Nat) (k s : Int), Below W.heap.size W w → R w P x F → Sml x n → n ≤ 2000000 → -9223372036854775808 ≤ k → k ≤ 9223372036854775807 → -9223372036854775808 ≤ s → s ≤ 9223372036854775807 →
    Calls Tryz.prog 24 #[.pointer (some ⟨P, 0, none⟩), .int .i64 k, .int .i64 s] w fun e w' => e = .returned (.int .i64 (x.send k s).1) ∧ ∃ F', R w' P (x.send k s).2 F' ∧ Only F w w' ∧ ∀ i, F' i → F i ∨ w.heap.size ≤ i
  other : ∀ (w : World) (P : Nat) (x : Ln) (F : Nat → Prop) (n : Nat) (s : Int), Below W.heap.size W w → R w P x F → Sml x n → n ≤ 2000000 → -9223372036854775808 ≤ s → s ≤ 9223372036854775807 →
    Calls Tryz.prog 21 #[.pointer (some ⟨P, 0, none⟩), .int .i64 s] w fun e w' => e = .returned (.int .i64 (x.other s).1) ∧ ∃ F', R w' P (x.other s).2 F' ∧ Only F w w' ∧ ∀ i, F' i → F i ∨ w.heap.size ≤ i
  run : ∀ (w : World) (P : Nat) (x : Ln) (F : Nat → Prop) (n : Nat) (t : Int), Below W.heap.size W w → R w P x F → Sml x n → n ≤ 2000000 → -9223372036854775808 ≤ t → t ≤ 9223372036854775807 →
    Calls Tryz.prog 41 #[.pointer (some ⟨P, 0, none⟩), .int .i64 t] w fun e w' => e = .returned (.int .i64 (x.run t).1) ∧ ∃ F', R w' P (x.run t).2 F' ∧ Only F w w' ∧ ∀ i, F' i → F i ∨ w.heap.size ≤ i
  gone : ∀ (w : World) (P : Nat) (x : Ln) (F : Nat → Prop) (n : Nat), Below W.heap.size W w → R w P x F → Sml x n → n ≤ 2000000 →
    Calls Tryz.prog 42 #[.pointer (some ⟨P, 0, none⟩)] w fun e w' => ∃ v F', e = .returned v ∧ w'.ownsRow w.heap.size 63 6 v x.gone.1.length (gcells x.gone.1) ∧ R w' P x.gone.2 F' ∧ Only F w w' ∧ (∀ i, F' i → F i ∨ w.heap.size ≤ i) ∧ ∀ g, v.ownBlock = some g → ¬ F' g
  setup : ∀ (w : World) (P : Nat) (x : Ln) (F : Nat → Prop) (n : Nat) (f : Fl), Below W.heap.size W w → R w P x F → Sml x n → n ≤ 2000000 → x.fl.length < 1000000 →
    Calls Tryz.prog 56 #[.pointer (some ⟨P, 0, none⟩), .agg #[.int .i64 f.s, .int .i64 f.p, .int .i64 f.b, .int .i64 f.r, .int .i64 f.d]] w fun e w' => e = .returned (.tuple #[.int .i64 (x.setup f).1.1, .int .i64 (x.setup f).1.2.1, .int .i64 (x.setup f).1.2.2]) ∧ ∃ F', R w' P (x.setup f).2 F' ∧ Only F w w' ∧ ∀ i, F' i → F i ∨ w.heap.size ≤ i
  teardown : ∀ (w : World) (P : Nat) (x : Ln) (F : Nat → Prop) (n : Nat) (k : Int), Below W.heap.size W w → R w P x F → Sml x n → n ≤ 2000000 → -9223372036854775808 ≤ k → k ≤ 9223372036854775807 →
    Calls Tryz.prog 57 #[.pointer (some ⟨P, 0, none⟩), .int .i64 k] w fun e w' => e = .returned (.int .i64 (x.teardown k).1) ∧ ∃ F', R w' P (x.teardown k).2 F' ∧ Only F w w' ∧ ∀ i, F' i → F i ∨ w.heap.size ≤ i
/-- And Look. -/
structure LineK (W : World) (R : World → Nat → Ln → (Nat → Prop) → Prop) : Prop extends LineJ W R where
  look : ∀ (w : World) (P : Nat) (x : Ln) (F : Nat → Prop) (n : Nat), Below W.heap.size W w → R w P x F → Sml x n → n ≤ 2000000 →
    Calls Tryz.prog 39 #[.pointer (some ⟨P, 0, none⟩)] w fun e w' => ∃ (vl vs : Value) (zl zs : List Int), e = .returned (.agg #[.int .i64 x.now, vl, vs, .int .i64 (x.waits : Int), .int .i64 (x.waiting (-1) : Int), .bool x.busy]) ∧
      w'.ownsRow w.heap.size 3 1 vl zl.length (zl.map fun (k : Int) => .int .i64 k) ∧ w'.ownsRow w.heap.size 3 1 vs zs.length (zs.map fun (k : Int) => .int .i64 k) ∧ (∀ g, vl.ownBlock = some g → vs.ownBlock ≠ some g) ∧ Below w.heap.size w w'
end Go.Proofs.YtcnmajndackohaaGreatDoor
/-
  append of one row to another, whether there is something in it or not.
-/
namespace Go.Proofs.YtcnmajndackohaaGreatDoor
open Go.RowKit

section
variable {P : Program} (w : World)
theorem run_append_nil (t ty e : TypeId) (i : TypeInfo) (ht : P.underlying t = some (.slice e)) (hi : P.info? e = some i) (a : Option Addr) (k c : Nat) (h : k ≤ c) (ha : a = none → c = 0) :
    (Builtin.append_ #[t, t] ty #[.slice a k c, .slice none 0 0]).run P w = .ok (.slice a k c) w := by
  cases a with
  | none =>
    have hc := ha rfl
    subst hc
    have hk : k = 0 := by omega
    subst hk
    simp [Builtin.append_, run_underlying ht, sizeOf, typeInfo, hi, Builtin.lenOf, Builtin.firstCells]
  | some ad =>
    simp [Builtin.append_, run_underlying ht, sizeOf, typeInfo, hi, Builtin.lenOf, Builtin.firstCells, loadCells, h, storeCells]
theorem run_append_any (t ty : TypeId) (e : TypeId) (i : TypeInfo) (z : Value) (size bytes : Nat) (ht : P.underlying t = some (.slice e)) (hi : P.info? e = some i) (hz : i.zero = some z)
    (hsize : i.size = size) (hby : i.bytes = bytes) (hzs : z.cells.size = size) (hsz : 0 < size)
    (v : Value) (n : Nat) (xs : List Value) (hown : w.ownsRow 0 e size v n xs) (u : Value) (m : Nat) (news : List Value) (b : Nat) (hsrc : w.ownsRow b e size u m news) (h1 : ∀ x ∈ news, x.oneCell' = true)
    (h63 : n + m ≤ maxLen) (hbytes : (n + m) * bytes ≤ 140737488355328) :
    ∃ (a' : Option Addr) (c' : Nat) (w' : World), (Builtin.append_ #[t, t] ty #[v, u]).run P w = .ok (.slice a' (n + m) c') w' ∧ w'.ownsRow 0 e size (.slice a' (n + m) c') (n + m) (xs ++ news) ∧ w.grownBy w' v.ownBlock ∧ ∀ g, (Value.slice a' (n + m) c').ownBlock = some g → v.ownBlock = some g ∨ w.heap.size ≤ g := by
  suffices hh : ∃ v' w', (Builtin.append_ #[t, t] ty #[v, u]).run P w = .ok v' w' ∧ w'.ownsRow 0 e size v' (n + m) (xs ++ news) ∧ w.grownBy w' v.ownBlock ∧ ∀ g, v'.ownBlock = some g → v.ownBlock = some g ∨ w.heap.size ≤ g by
    obtain ⟨v', w', h1, h2, h3, h4⟩ := hh
    have hf : ∃ a' c', v' = .slice a' (n + m) c' := by
      rcases h2.2 with ⟨e1, e2⟩ | ⟨g, cap, cur, e1, _⟩
      · exact ⟨none, 0, by rw [e1, e2]⟩
      · exact ⟨_, _, e1⟩
    obtain ⟨a', c', rfl⟩ := hf
    exact ⟨a', c', w', h1, h2, h3, h4⟩
  rcases hsrc.2 with ⟨rfl, rfl⟩ | ⟨g, cap, cur, rfl, hb, hcur, hle, hmax, hcs, htake⟩
  · have hnil : news = [] := List.eq_nil_of_length_eq_zero (by rw [hsrc.1]; omega)
    subst hnil
    refine ⟨v, w, ?_, by simpa using hown, ⟨rfl, rfl, rfl, Nat.le_refl _, fun _ _ _ => rfl⟩, fun g hg => .inl hg⟩
    rcases hown.2 with ⟨rfl, rfl⟩ | ⟨g, cap, cur, rfl, _, _, hle, _⟩
    · exact run_append_nil w t ty e i ht hi none 0 0 (Nat.le_refl _) (fun _ => rfl)
    · exact run_append_nil w t ty e i ht hi (some ⟨g, 0, none⟩) n cap hle (fun c => by cases c)
  · obtain ⟨v', w', hr, h2, h3, _, h5⟩ := run_append_own_at (P := P) w 0 t ty e i z size bytes ht hi hz hsize hby hzs hsz v n xs hown ⟨g, 0, none⟩ m cap news hsrc.1 (fun j x hx => hsrc.cells rfl j x hx) h1 h63 hbytes (Nat.zero_le _)
    refine ⟨v', w', hr, h2, h3, fun g' hg' => ?_⟩
    rcases h5 with h5 | h5
    · exact .inl (by rw [← h5]; exact hg')
    · right
      rw [h5] at hg'
      have : w.heap.size = g' := Option.some.inj hg'
      omega
/-- At the operation. -/
theorem wp_append_any {o : Oper} {a : Act} {K : Act → World → Prop} {Q : Exit → Act → World → Prop} (s x : Operand) (t : TypeId)
    (ho : o.op = .call { callee := .builtin .append, args := #[s, x], argTypes := #[t, t] })
    (e : TypeId) (i : TypeInfo) (z : Value) (size bytes : Nat) (ht : P.underlying t = some (.slice e)) (hi : P.info? e = some i) (hz : i.zero = some z)
    (hsize : i.size = size) (hby : i.bytes = bytes) (hzs : z.cells.size = size) (hsz : 0 < size)
    (v : Value) (n : Nat) (xs : List Value) (hs : a.eval s = v) (hown : w.ownsRow 0 e size v n xs) (u : Value) (m : Nat) (news : List Value) (b : Nat) (hx : a.eval x = u) (hsrc : w.ownsRow b e size u m news) (h1 : ∀ x ∈ news, x.oneCell' = true)
    (h63 : n + m ≤ maxLen) (hbytes : (n + m) * bytes ≤ 140737488355328)
    (h : ∀ a' c' w', w'.ownsRow 0 e size (.slice a' (n + m) c') (n + m) (xs ++ news) → w.grownBy w' v.ownBlock → (∀ g, (Value.slice a' (n + m) c').ownBlock = some g → v.ownBlock = some g ∨ w.heap.size ≤ g) → K (a.put o.dst (.slice a' (n + m) c')) w') : o.wp P a w K Q := by
  obtain ⟨a', c', w', hr, h2, h3, h4⟩ := run_append_any (P := P) w t o.type e i z size bytes ht hi hz hsize hby hzs hsz v n xs hown u m news b hsrc h1 h63 hbytes
  unfold Oper.wp execOp
  simp only [ho, resolve, invoke, builtin, Sem.run_bind, Sem.run_pure, Result.andThen_ok, List.map_toArray, List.map_cons, List.map_nil, hs, hx, hr]
  exact h a' c' w' h2 h3 h4
/-- In a plain region. -/
theorem wpList_append_any {ops : Array Oper} {rest : List Oper} {o : Oper} {a : Act} {Q : Exit → Act → World → Prop} (hgd : o.guard = none) (s x : Operand) (t : TypeId)
    (ho : o.op = .call { callee := .builtin .append, args := #[s, x], argTypes := #[t, t] })
    (e : TypeId) (i : TypeInfo) (z : Value) (size bytes : Nat) (ht : P.underlying t = some (.slice e)) (hi : P.info? e = some i) (hz : i.zero = some z)
    (hsize : i.size = size) (hby : i.bytes = bytes) (hzs : z.cells.size = size) (hsz : 0 < size)
    (v : Value) (n : Nat) (xs : List Value) (hs : a.eval s = v) (hown : w.ownsRow 0 e size v n xs) (u : Value) (m : Nat) (news : List Value) (b : Nat) (hx : a.eval x = u) (hsrc : w.ownsRow b e size u m news) (h1 : ∀ x ∈ news, x.oneCell' = true)
    (h63 : n + m ≤ maxLen) (hbytes : (n + m) * bytes ≤ 140737488355328)
    (h : ∀ a' c' w', w'.ownsRow 0 e size (.slice a' (n + m) c') (n + m) (xs ++ news) → w.grownBy w' v.ownBlock → (∀ g, (Value.slice a' (n + m) c').ownBlock = some g → v.ownBlock = some g ∨ w.heap.size ≤ g) → wpList P ops Q rest (a.put o.dst (.slice a' (n + m) c')) w') : wpList P ops Q (o :: rest) a w :=
  wpList_plain hgd fun _ hK => wp_append_any w s x t ho e i z size bytes ht hi hz hsize hby hzs hsz v n xs hs hown u m news b hx hsrc h1 h63 hbytes fun a' c' w' h2 h3 h4 => hK _ _ (h a' c' w' h2 h3 h4)
/-- At a step of a region that draws. -/
theorem step_append_any {ops : Array Oper} {o : Oper} {a : Act} {K : Act → World → Prop} {Q : Exit → Act → World → Prop} {E : Prop} (hgd : o.guard = none) (s x : Operand) (t : TypeId)
    (ho : o.op = .call { callee := .builtin .append, args := #[s, x], argTypes := #[t, t] })
    (e : TypeId) (i : TypeInfo) (z : Value) (size bytes : Nat) (ht : P.underlying t = some (.slice e)) (hi : P.info? e = some i) (hz : i.zero = some z)
    (hsize : i.size = size) (hby : i.bytes = bytes) (hzs : z.cells.size = size) (hsz : 0 < size)
    (v : Value) (n : Nat) (xs : List Value) (hs : a.eval s = v) (hown : w.ownsRow 0 e size v n xs) (u : Value) (m : Nat) (news : List Value) (b : Nat) (hx : a.eval x = u) (hsrc : w.ownsRow b e size u m news) (h1 : ∀ x ∈ news, x.oneCell' = true)
    (h63 : n + m ≤ maxLen) (hbytes : (n + m) * bytes ≤ 140737488355328)
    (h : ∀ a' c' w', w'.ownsRow 0 e size (.slice a' (n + m) c') (n + m) (xs ++ news) → w.grownBy w' v.ownBlock → (∀ g, (Value.slice a' (n + m) c').ownBlock = some g → v.ownBlock = some g ∨ w.heap.size ≤ g) → K (a.put o.dst (.slice a' (n + m) c')) w') :
    if Region.wanted o (yielded ops a.tmps) = true then Oper.wp P o a w K Q else E := by
  have hw : Region.wanted o (yielded ops a.tmps) = true := by simp [Region.wanted, hgd]
  rw [if_pos hw]
  exact wp_append_any w s x t ho e i z size bytes ht hi hz hsize hby hzs hsz v n xs hs hown u m news b hx hsrc h1 h63 hbytes h
end
end Go.Proofs.YtcnmajndackohaaGreatDoor
/-
  The cells of flows, as they lie in a row.
-/
namespace Go.Proofs.YtcnmajndackohaaGreatDoor
open Go.RowKit

/-- The cells of flows. -/
def fcells : List Fl → List Value
  | [] => []
  | f :: l => .int .i64 f.s :: .int .i64 f.p :: .int .i64 f.b :: .int .i64 f.r :: .int .i64 f.d :: fcells l
theorem fcells_length (l : List Fl) : (fcells l).length = l.length * 5 := by
  induction l with
  | nil => rfl
  | cons f l ih => simp only [fcells, List.length_cons, ih]; omega
theorem fcells_append (l m : List Fl) : fcells (l ++ m) = fcells l ++ fcells m := by
  induction l with
  | nil => rfl
  | cons f l ih => simp only [List.cons_append, fcells, ih]
theorem fcells_at (l : List Fl) : ∀ (k : Nat) (h : k < l.length), (fcells l)[k * 5]? = some (.int .i64 l[k].s) ∧ (fcells l)[k * 5 + 1]? = some (.int .i64 l[k].p) ∧ (fcells l)[k * 5 + 2]? = some (.int .i64 l[k].b) ∧ (fcells l)[k * 5 + 3]? = some (.int .i64 l[k].r) ∧ (fcells l)[k * 5 + 4]? = some (.int .i64 l[k].d) := by
  induction l with
  | nil => intro k h; exact absurd h (by simp)
  | cons f l ih =>
    intro k h
    cases k with
    | zero => exact ⟨rfl, rfl, rfl, rfl, rfl⟩
    | succ k =>
      have := ih k (by simpa using h)
      have e : (k + 1) * 5 = k * 5 + 5 := by omega
      rw [e]
      simpa [fcells] using this
theorem fcells_set (L : List Fl) (x : Fl) : ∀ k, k < L.length → fcells (L.set k x) = (((((fcells L).set (k * 5) (.int .i64 x.s)).set (k * 5 + 1) (.int .i64 x.p)).set (k * 5 + 2) (.int .i64 x.b)).set (k * 5 + 3) (.int .i64 x.r)).set (k * 5 + 4) (.int .i64 x.d) := by
  induction L with
  | nil => intro k h; exact absurd h (by simp)
  | cons f L ih =>
    intro k h
    cases k with
    | zero => rfl
    | succ k =>
      have := ih k (by simpa using h)
      have e : (k + 1) * 5 = k * 5 + 5 := by omega
      rw [e]
      simp only [List.set_cons_succ, fcells, this]
end Go.Proofs.YtcnmajndackohaaGreatDoor
