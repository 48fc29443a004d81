import Derived.Test.YtcnmajndackohaaGreatDoorMg40
import Derived.Test.YtcnmajndackohaaGreatDoorMg41
/-
  What the document's Look gathers, in memory.
-/
namespace Go.Proofs.YtcnmajndackohaaGreatDoor
open Go.RowKit
def idk (x : Ln) (is : Int) (k : Nat) : List Nat := (List.range k).filter fun (j : Nat) => decide (isOf x.fl (j : Int) = is)
def swt (x : Ln) (k : Nat) : Int := sm (fun k => (x.waiting (k : Int) : Int)) (fun _ => true) k
theorem swt_succ (x : Ln) (k : Nat) : swt x (k + 1) = swt x k + (x.waiting (k : Int) : Int) := by unfold swt; rfl
/-- The list, with one more. -/
theorem cells_more (x : Ln) (is : Int) (k : Nat) (h : isOf x.fl (k : Int) = is) : icells (nats (idk x is (k + 1))) = icells (nats (idk x is k)) ++ [.int .i64 (k : Int)] ∧ (idk x is (k + 1)).length = (idk x is k).length + 1 := by
  have e : idk x is (k + 1) = idk x is k ++ [k] := by unfold idk; rw [ids_succ, if_pos h]
  rw [e]
  refine ⟨?_, by rw [List.length_append]; rfl⟩
  unfold icells nats
  rw [List.map_append, List.map_append]
  rfl
theorem idk_same (x : Ln) (is : Int) (k : Nat) (h : isOf x.fl (k : Int) ≠ is) : idk x is (k + 1) = idk x is k := by unfold idk; rw [ids_succ, if_neg h, List.append_nil]
theorem idk_len (x : Ln) (is : Int) (k : Nat) : (idk x is k).length ≤ k := by unfold idk; exact Nat.le_trans (List.length_filter_le _ _) (by rw [List.length_range]; exact Nat.le_refl _)
/-- What has been gathered. -/
structure Rk (w wr : World) (b : Nat) (x : Ln) (kl ks kw : Nat) (vl vs : Value) : Prop where
  hb : w.heap.size < b
  bl : Below w.heap.size w wr
  vb : Is wr b 84 #[.int .i64 x.now, vl, vs, .int .i64 (swt x kw), .int .i64 (x.waiting (-1) : Int), .bool x.busy]
  re : Is wr w.heap.size 84 vzero
  ol : wr.ownsRow (b + 1) 3 1 vl (idk x 0 kl).length (icells (nats (idk x 0 kl)))
  os : wr.ownsRow (b + 1) 3 1 vs (idk x 1 ks).length (icells (nats (idk x 1 ks)))
  ne : ∀ g, vl.ownBlock = some g → vs.ownBlock ≠ some g
section
variable {w wr w1 : World} {b : Nat} {x : Ln} {kl ks kw k : Nat} {vl vs : Value}
theorem Rk.below (h : Rk w wr b x kl ks kw vl vs) (hb : Below wr.heap.size wr w1) : Rk w w1 b x kl ks kw vl vs :=
  have hO : Only (fun _ => False) wr w1 := Only.of_below hb
  ⟨h.hb, bel_then h.bl hb, h.vb.below hb, h.re.below hb, ownsRow_only h.ol hO (fun _ _ c => c), ownsRow_only h.os hO (fun _ _ c => c), h.ne⟩
theorem Rk.add (h : Rk w wr b x kl ks k vl vs) : Rk w (wr.setCell ⟨b, 3, none⟩ (.int .i64 (swt x (k + 1)))) b x kl ks (k + 1) vl vs := by
  have hO : Only (fun i => i = b) wr (wr.setCell ⟨b, 3, none⟩ (.int .i64 (swt x (k + 1)))) := only_set _ _ _ _
  have h1 := h.hb
  exact ⟨h.hb, bel_sets h.bl hO (by omega), h.vb.set 3 _, h.re.only hO (by omega), ownsRow_only h.ol hO (fun g hg e => by have := (ownsRow_lt h.ol g hg).1; omega), ownsRow_only h.os hO (fun g hg e => by have := (ownsRow_lt h.os g hg).1; omega), h.ne⟩
theorem Rk.live (h : Rk w wr b x k ks kw vl vs) (his : isOf x.fl (k : Int) = 0) {ob : Obj} {g c : Nat} {w3 : World} (hown : w3.ownsRow (b + 1) 3 1 (.slice (some ⟨g, 0, none⟩) ((idk x 0 k).length + 1) c) ((idk x 0 k).length + 1) (icells (nats (idk x 0 k)) ++ [.int .i64 (k : Int)])) (hg : (wr.alloc ob).grownBy w3 vl.ownBlock) (hat : vl.ownBlock = some g ∨ g = wr.heap.size + 1) :
    Is w3 b 84 #[.int .i64 x.now, vl, vs, .int .i64 (swt x kw), .int .i64 (x.waiting (-1) : Int), .bool x.busy] ∧ Rk w (w3.setCell ⟨b, 1, none⟩ (.slice (some ⟨g, 0, none⟩) ((idk x 0 k).length + 1) c)) b x (k + 1) ks kw (.slice (some ⟨g, 0, none⟩) ((idk x 0 k).length + 1) c) vs := by
  have h1 := h.hb
  obtain ⟨e1, e2⟩ := cells_more x 0 k his
  have hlo : ∀ g, some g = vl.ownBlock → b + 1 ≤ g := fun g e => (ownsRow_lt h.ol g e.symm).1
  have hO1 : Only (fun i => some i = vl.ownBlock) wr w3 := (Only.of_below (bel_one ob)).trans (grown_only hg) (fun _ _ e => e)
  have hO2 : Only (fun i => i = b) w3 (w3.setCell ⟨b, 1, none⟩ (.slice (some ⟨g, 0, none⟩) ((idk x 0 k).length + 1) c)) := only_set _ _ _ _
  have hb3 : Below w.heap.size w w3 := bel_grownB (bel_then h.bl (bel_one ob)) hg (fun g e => by have := hlo g e.symm; omega)
  have hI := h.vb.only hO1 (fun e => by have := hlo _ e; omega)
  have ho3 := ownsRow_only h.os hO1 (fun g hg' e => h.ne g e.symm hg')
  refine ⟨hI, ⟨h.hb, bel_sets hb3 hO2 (by omega), hI.set 1 _, (h.re.only hO1 (fun e => by have := hlo _ e; omega)).only hO2 (by omega), ?_, ownsRow_only ho3 hO2 (fun g hg e => by have := (ownsRow_lt ho3 g hg).1; omega), ?_⟩⟩
  · rw [e1, e2]
    exact ownsRow_only hown hO2 (fun g hg e => by have := (ownsRow_lt hown g hg).1; omega)
  · intro g' hg' e
    obtain rfl : g = g' := Option.some.inj hg'
    rcases hat with q | q
    · exact h.ne g q e
    · have := (ownsRow_lt h.os g e).2; omega
theorem Rk.stay (h : Rk w wr b x kl k kw vl vs) (his : isOf x.fl (k : Int) = 1) {ob : Obj} {g c : Nat} {w3 : World} (hown : w3.ownsRow (b + 1) 3 1 (.slice (some ⟨g, 0, none⟩) ((idk x 1 k).length + 1) c) ((idk x 1 k).length + 1) (icells (nats (idk x 1 k)) ++ [.int .i64 (k : Int)])) (hg : (wr.alloc ob).grownBy w3 vs.ownBlock) (hat : vs.ownBlock = some g ∨ g = wr.heap.size + 1) :
    Is w3 b 84 #[.int .i64 x.now, vl, vs, .int .i64 (swt x kw), .int .i64 (x.waiting (-1) : Int), .bool x.busy] ∧ Rk w (w3.setCell ⟨b, 2, none⟩ (.slice (some ⟨g, 0, none⟩) ((idk x 1 k).length + 1) c)) b x kl (k + 1) kw vl (.slice (some ⟨g, 0, none⟩) ((idk x 1 k).length + 1) c) := by
  have h1 := h.hb
  obtain ⟨e1, e2⟩ := cells_more x 1 k his
  have hlo : ∀ g, some g = vs.ownBlock → b + 1 ≤ g := fun g e => (ownsRow_lt h.os g e.symm).1
  have hO1 : Only (fun i => some i = vs.ownBlock) wr w3 := (Only.of_below (bel_one ob)).trans (grown_only hg) (fun _ _ e => e)
  have hO2 : Only (fun i => i = b) w3 (w3.setCell ⟨b, 2, none⟩ (.slice (some ⟨g, 0, none⟩) ((idk x 1 k).length + 1) c)) := only_set _ _ _ _
  have hb3 : Below w.heap.size w w3 := bel_grownB (bel_then h.bl (bel_one ob)) hg (fun g e => by have := hlo g e.symm; omega)
  have hI := h.vb.only hO1 (fun e => by have := hlo _ e; omega)
  have ho3 := ownsRow_only h.ol hO1 (fun g hg' e => h.ne g hg' e.symm)
  refine ⟨hI, ⟨h.hb, bel_sets hb3 hO2 (by omega), hI.set 2 _, (h.re.only hO1 (fun e => by have := hlo _ e; omega)).only hO2 (by omega), ownsRow_only ho3 hO2 (fun g hg e => by have := (ownsRow_lt ho3 g hg).1; omega), ?_, ?_⟩⟩
  · rw [e1, e2]
    exact ownsRow_only hown hO2 (fun g hg e => by have := (ownsRow_lt hown g hg).1; omega)
  · intro g' hg' e
    obtain rfl : g = g' := Option.some.inj e
    rcases hat with q | q
    · exact h.ne g hg' q
    · have := (ownsRow_lt h.ol g hg').2; omega
theorem Rk.noL (h : Rk w wr b x k ks kw vl vs) (his : isOf x.fl (k : Int) ≠ 0) : Rk w wr b x (k + 1) ks kw vl vs := ⟨h.hb, h.bl, h.vb, h.re, by rw [idk_same x 0 k his]; exact h.ol, h.os, h.ne⟩
theorem Rk.noS (h : Rk w wr b x kl k kw vl vs) (his : isOf x.fl (k : Int) ≠ 1) : Rk w wr b x kl (k + 1) kw vl vs := ⟨h.hb, h.bl, h.vb, h.re, h.ol, by rw [idk_same x 1 k his]; exact h.os, h.ne⟩
end
end Go.Proofs.YtcnmajndackohaaGreatDoor
