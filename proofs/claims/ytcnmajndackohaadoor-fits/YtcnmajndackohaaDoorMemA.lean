/-
  Blocks that are known whole, and what a call leaves alone.
-/
import Derived.Test.YtcnmajndackohaaDoorWalkB
import Derived.OwnWalk
import Derived.Deep.AppendLies
namespace Go.Proofs.YtcnmajndackohaaDoor
open Go.RowKit

theorem bel_one {w : World} (o : Obj) : Below w.heap.size w (w.alloc o) := (Below.refl _ _).alloc (Nat.le_refl _) _
theorem bel_then {a b c : World} (h : Below a.heap.size a b) (k : Below b.heap.size b c) : Below a.heap.size a c := h.trans (k.mono h.size)
/-- What changes are blocks of S, and new ones. -/
structure Only (S : Nat → Prop) (w w' : World) : Prop where
  os : w'.os = w.os
  tape : w'.tape = w.tape
  output : w'.output = w.output
  size : w.heap.size ≤ w'.heap.size
  block : ∀ k, k < w.heap.size → ¬ S k → w'.heap[k]? = w.heap[k]?
theorem Only.refl (S : Nat → Prop) (w : World) : Only S w w := ⟨rfl, rfl, rfl, Nat.le_refl _, fun _ _ _ => rfl⟩
theorem Only.trans {S T : Nat → Prop} {a b c : World} (h : Only S a b) (k : Only T b c) (hs : ∀ i, i < a.heap.size → T i → S i) : Only S a c :=
  ⟨k.os.trans h.os, k.tape.trans h.tape, k.output.trans h.output, Nat.le_trans h.size k.size, fun i hi hn => (k.block i (Nat.lt_of_lt_of_le hi h.size) (fun ht => hn (hs i hi ht))).trans (h.block i hi hn)⟩
theorem Only.mono {S T : Nat → Prop} {a b : World} (h : Only S a b) (hs : ∀ i, i < a.heap.size → S i → T i) : Only T a b :=
  ⟨h.os, h.tape, h.output, h.size, fun i hi hn => h.block i hi fun k => hn (hs i hi k)⟩
theorem Only.of_below {S : Nat → Prop} {w w' : World} (h : Below w.heap.size w w') : Only S w w' := ⟨h.os, h.tape, h.output, h.size, fun k hk _ => h.block k hk⟩
theorem Only.below {S : Nat → Prop} {w w' : World} (h : Only S w w') {n : Nat} (hn : n ≤ w.heap.size) (hs : ∀ k, k < n → ¬ S k) : Below n w w' :=
  ⟨h.os, h.tape, h.output, h.size, fun k hk => h.block k (Nat.lt_of_lt_of_le hk hn) (hs k hk)⟩
theorem Only.alloc {S : Nat → Prop} {a b : World} (h : Only S a b) (o : Obj) : Only S a (b.alloc o) :=
  h.trans (T := fun _ => False) (Only.of_below ((Below.refl _ _).alloc (Nat.le_refl _) o)) (fun _ _ k => k.elim)
theorem Only.drew {S : Nat → Prop} {a b : World} (h : Only S a b) : Only S a b.drew := ⟨h.os, h.tape, h.output, h.size, h.block⟩
theorem setCell_same {w : World} {g o : Nat} {v : Value} : (w.setCell ⟨g, o, none⟩ v).os = w.os ∧ (w.setCell ⟨g, o, none⟩ v).tape = w.tape ∧ (w.setCell ⟨g, o, none⟩ v).output = w.output ∧ w.heap.size ≤ (w.setCell ⟨g, o, none⟩ v).heap.size ∧ ∀ k, k < w.heap.size → k ≠ g → (w.setCell ⟨g, o, none⟩ v).heap[k]? = w.heap[k]? := by
  refine ⟨?_, ?_, ?_, ?_, ?_⟩
  · exact ((Below.refl 0 w).setCell (p := ⟨g, o, none⟩) (Nat.zero_le _) v).os
  · exact ((Below.refl 0 w).setCell (p := ⟨g, o, none⟩) (Nat.zero_le _) v).tape
  · exact ((Below.refl 0 w).setCell (p := ⟨g, o, none⟩) (Nat.zero_le _) v).output
  · exact ((Below.refl 0 w).setCell (p := ⟨g, o, none⟩) (Nat.zero_le _) v).size
  · intro k _ hne
    exact Below.heap_setCell w ⟨g, o, none⟩ v k hne
theorem Only.setCell {S : Nat → Prop} {a b : World} (h : Only S a b) {g o : Nat} {v : Value} (hg : S g ∨ a.heap.size ≤ g) : Only S a (b.setCell ⟨g, o, none⟩ v) := by
  obtain ⟨s1, s2, s3, s4, s5⟩ := setCell_same (w := b) (g := g) (o := o) (v := v)
  refine ⟨s1.trans h.os, s2.trans h.tape, s3.trans h.output, Nat.le_trans h.size s4, fun i hi hn => (s5 i (Nat.lt_of_lt_of_le hi h.size) ?_).trans (h.block i hi hn)⟩
  rintro rfl
  rcases hg with k | k
  · exact hn k
  · omega
theorem only_set (w : World) (b o : Nat) (v : Value) : Only (fun x => x = b) w (w.setCell ⟨b, o, none⟩ v) := (Only.refl _ _).setCell (.inl rfl)
theorem Only.grown {S : Nat → Prop} {a b c : World} (h : Only S a b) {row : Option Nat} (hg : b.grownBy c row) (hs : ∀ k, row = some k → k < a.heap.size → S k) : Only S a c :=
  ⟨hg.os.trans h.os, hg.tape.trans h.tape, hg.output.trans h.output, Nat.le_trans h.size hg.size, fun i hi hn => (hg.block i (Nat.lt_of_lt_of_le hi h.size) (fun e => hn (hs i e.symm hi))).trans (h.block i hi hn)⟩
/-- Block b is known whole. -/
def Is (w : World) (b : Nat) (t : TypeId) (cs : Array Value) : Prop := w.heap[b]? = some (.cells cs t (0, 0))
section
variable {w : World} {b : Nat} {t : TypeId} {cs : Array Value}
theorem Is.lt (h : Is w b t cs) : b < w.heap.size := lt_of_heap h
theorem Is.cell (h : Is w b t cs) {j : Nat} {u : Value} (hu : cs[j]? = some u) : w.cell? ⟨b, j, none⟩ = some u := by
  have h' : w.heap[b]? = some (.cells cs t (0, 0)) := h
  rw [cell_of_row w b j _ _ _ h']; exact hu
theorem Is.frozen (h : Is w b t cs) (o : Nat) : w.frozen? ⟨b, o, none⟩ = false := by
  have h' : w.heap[b]? = some (.cells cs t (0, 0)) := h
  simp [World.frozen?, h']
theorem Is.drew (h : Is w b t cs) : Is w.drew b t cs := h
theorem Is.set (h : Is w b t cs) (o : Nat) (v : Value) : Is (w.setCell ⟨b, o, none⟩ v) b t (cs.setIfInBounds o v) := by
  have h' : w.heap[b]? = some (.cells cs t (0, 0)) := h
  unfold Is
  rw [setCell_eq_setRow w b o cs t (0, 0) v h']
  exact setRow_heap w b cs _ t (0, 0) h'
theorem Is.far (h : Is w b t cs) {g o : Nat} {v : Value} (hg : b ≠ g) : Is (w.setCell ⟨g, o, none⟩ v) b t cs := (setCell_same.2.2.2.2 b h.lt hg).trans h
theorem Is.only {S : Nat → Prop} {w' : World} (h : Is w b t cs) (k : Only S w w') (hs : ¬ S b) : Is w' b t cs := (k.block b h.lt hs).trans h
theorem Is.below {w' : World} (h : Is w b t cs) (k : Below w.heap.size w w') : Is w' b t cs := (k.block b h.lt).trans h
theorem Is.alloc (h : Is w b t cs) (o : Obj) : Is (w.alloc o) b t cs := h.below ((Below.refl _ _).alloc (Nat.le_refl _) o)
theorem Is.new (w : World) (t : TypeId) (cs : Array Value) : Is (w.alloc (.cells cs t (0, 0))) w.heap.size t cs := heap_alloc_new w _
end
end Go.Proofs.YtcnmajndackohaaDoor
