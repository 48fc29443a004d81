/-
  What lend does: a row of the call's own, with the flows and eight cells behind them.
-/
import Derived.Test.YtcnmajndackohaaGreatDoorLawA
namespace Go.Proofs.YtcnmajndackohaaGreatDoor
open Go.RowKit

theorem blk_of_made {w : World} {base : Nat} {v : Value} {n : Nat} {g : Nat} (hv : v = .slice (some ⟨g, 0, none⟩) n n) (h : w.ownsRow base 35 5 v n (madeCells (Value.cells (.agg #[.int .i64 0, .int .i64 0, .int .i64 0, .int .i64 0, .int .i64 0])) (n * 5)).toList) : Blk w g (List.replicate n zf) := by
  rcases h.2 with ⟨e, _⟩ | ⟨g', cap, cur, e, _, hc, _, _, hs, ht⟩
  · rw [hv] at e; cases e
  · rw [hv] at e
    simp only [Value.slice.injEq, Option.some.injEq, Addr.mk.injEq] at e
    obtain ⟨⟨rfl, _, _⟩, _, rfl⟩ := e
    rw [made_zero] at ht
    unfold Blk
    rw [hc]
    congr 2
    rw [← ht, List.take_of_length_le (by simp [hs])]

theorem zeros_cut (n : Nat) : (fcells (List.replicate (n + 8) zf)).drop (n * 5) = fcells (List.replicate 8 zf) := by
  have e : List.replicate (n + 8) zf = List.replicate n zf ++ List.replicate 8 zf := by rw [List.replicate_append_replicate]
  rw [e, fcells_append, List.drop_append_of_le_length (by rw [fcells_length]; simp), List.drop_of_length_le (by rw [fcells_length]; simp)]
  rfl
theorem blk_lent {w : World} {g n : Nat} {l : List Fl} (hn : l.length = n) (h : Blk w g (List.replicate (n + 8) zf)) : Blk (w.setRow g (fcells l ++ (fcells (List.replicate (n + 8) zf)).toArray.toList.drop (fcells l).length).toArray) g (lentTo l 0) := by
  have h' : w.heap[g]? = some (.cells (fcells (List.replicate (n + 8) zf)).toArray 35 (0, 0)) := h
  have hc : fcells l ++ (fcells (List.replicate (n + 8) zf)).toArray.toList.drop (fcells l).length = fcells (lentTo l 0) := by
    rw [fcells_length, hn]
    show fcells l ++ (fcells (List.replicate (n + 8) zf)).drop (n * 5) = _
    rw [zeros_cut]
    unfold lentTo
    rw [fcells_append]
    rfl
  unfold Blk
  rw [setRow_heap w g _ _ _ _ h', hc]

set_option maxRecDepth 100000 in
set_option maxHeartbeats 4000000 in
theorem lend_core (a : Option Addr) (c : Nat) (l : List Fl) (w : World) (hl : l.length * 40 ≤ 140737488355328)
    (hC : ∀ w1, Blk w1 w.heap.size (List.replicate (l.length + 8) zf) → Below w.heap.size w w1 → ∃ w2, (∀ ty, (Builtin.copy_ #[37, 37] ty #[.slice (some ⟨w.heap.size, 0, none⟩) (l.length + 8) (l.length + 8), .slice a l.length c]).run Tryz.prog w1 = .ok (goInt l.length) w2) ∧ Blk w2 w.heap.size (lentTo l 0) ∧ Below w.heap.size w w2) :
    Calls Tryz.prog 31 #[.slice a l.length c] w fun e w' => e = .returned (.slice (some ⟨w.heap.size, 0, none⟩) (l.length + 8) (l.length + 8)) ∧ Blk w' w.heap.size (l ++ spare 8) ∧ Below w.heap.size w w' := by
  have HC := hide hC
  clear hC
  obtain ⟨i0, hi0, hz0, hz1, hz2⟩ := info_parts infoFl
  have HI := hide hi0
  have HZ0 := hide hz0
  have HZ1 := hide hz1
  have HZ2 := hide hz2
  clear hi0 hz0 hz1 hz2
  generalize hn : l.length = n at *
  have HN := hide hn
  have hn1 : (n : Int) ≤ 140737488355328 := by omega
  clear hn
  go_enter Tryz.func31, Tryz.ntmps31
  go_wp2_with (at_make; refine wpList_make_full _ (by rfl) _ _ 37 (by rfl) w.heap.size 35 i0 _ 5 Tryz.underlying37 (unhide HI) (unhide HZ0) (unhide HZ1) .i64 .i64 _ _ (n + 8) (by rfl) (by rfl) (by omega) (by omega) (by rw [unhide HZ2]; omega) (by unfold maxLen; omega) (Nat.le_refl _) ?_)
  intro w1 hown hgrow
  have HB1 := hide (blk_of_made rfl hown)
  have HBel1 := hide ((Below.refl w.heap.size w).grown hgrow (Nat.le_refl _) (fun k hk => by cases hk))
  clear hown hgrow
  obtain ⟨w2, hcopy, hb2, hbel2⟩ := unhide HC _ (unhide HB1) (unhide HBel1)
  have HB2 := hide hb2
  have HBel2 := hide hbel2
  clear hb2 hbel2 HB1 HBel1 HC
  generalize hg : w.heap.size = g at *
  have HGd := hide hg
  clear hg
  go_wp2_with fail
  clear hcopy
  go_loopw [4] (fun i wr => ∃ k : Nat, k ≤ 8 ∧ i = .int .i64 k ∧ Blk wr g (lentTo l k) ∧ Below g w wr) (fun i _ => 8 - (intOf i).toNat)
  case atStart => exact ⟨0, Nat.zero_le _, rfl, unhide HB2, unhide HBel2⟩
  case round =>
    obtain ⟨k, hk, rfl, hblk, hbel⟩ := hrel
    by_cases hlt : k < 8
    · have HBk := hide hblk
      have HBl := hide hbel
      have hll : n + k < (lentTo l k).length := by rw [lentTo_len l k hk, unhide HN]; omega
      have q0 := hblk.lies.c0 (n + k) hll
      have q1 := hblk.lies.c1 (n + k) hll
      have q2 := hblk.lies.c2 (n + k) hll
      have q3 := hblk.lies.c3 (n + k) hll
      have q4 := hblk.lies.c4 (n + k) hll
      rw [Nat.zero_add] at q0 q1 q2 q3 q4
      have z := hblk.frozen
      have q5 := hblk.lt
      generalize (lentTo l k)[n + k] = fo at *
      clear hblk hbel
      go_wp2_with fail
      have hst := (unhide HBk).store (x := ⟨77, 0, 0, 0, (k : Int)⟩) hll
      have hset := lentTo_set l k hlt
      rw [unhide HN] at hset
      rw [hset] at hst
      have hbs := fun (h : Below w.heap.size w wr) => below_store (k := n + k) (x := ⟨77, 0, 0, 0, (k : Int)⟩) h (Nat.le_of_eq (unhide HGd))
      rw [unhide HGd] at hbs
      refine ⟨⟨k + 1, by omega, by go_num, hst, hbs (unhide HBl)⟩, by simp [intOf]; omega⟩
    · have hk8 : k = 8 := by omega
      subst hk8
      have HBk := hide hblk
      have HBl := hide hbel
      clear hblk hbel
      go_wp2_with fail
      go_ret
      refine ⟨?_, ?_, ?_⟩
      · rw [unhide HGd]; rfl
      · rw [unhide HGd, ← lentTo_eight]; exact unhide HBk
      · rw [unhide HGd]; exact unhide HBl
theorem flowSize : (Tryz.prog.info? 35).map (·.size) = some 5 := by kernel_rfl
theorem lend_some (b o c : Nat) (l : List Fl) (w : World) (hw : Lies w b o l) (hl : l.length * 40 ≤ 140737488355328) :
    Calls Tryz.prog 31 #[.slice (some ⟨b, o, none⟩) l.length c] w fun e w' => e = .returned (.slice (some ⟨w.heap.size, 0, none⟩) (l.length + 8) (l.length + 8)) ∧ Blk w' w.heap.size (l ++ spare 8) ∧ Below w.heap.size w w' := by
  refine lend_core (some ⟨b, o, none⟩) c l w hl fun w1 hb hbel => ⟨_, fun ty => run_copy5 w1 _ _ ty 35 w.heap.size (l.length + 8) (l.length + 8) ⟨b, o, none⟩ l.length c _ _ (fcells l) Tryz.prog Tryz.underlying37 flowSize hb (fcells_length l) (by omega) (lies_src (hw.below hbel)) ?_ (fcells_one l), blk_lent rfl hb, below_setRow hbel (Nat.le_refl _) _⟩
  show (fcells l).length ≤ (fcells (List.replicate (l.length + 8) zf)).length
  rw [fcells_length, fcells_length, List.length_replicate]; omega
theorem run_copy_zero (w : World) (dT sT ty elem : TypeId) (g : Addr) (a : Option Addr) (dLen dCap c : Nat) (P : Program) (hu : P.underlying dT = some (.slice elem)) (hs : (P.info? elem).map (·.size) = some 5) :
    (Builtin.copy_ #[dT, sT] ty #[.slice (some g) dLen dCap, .slice a 0 c]).run P w = .ok (goInt 0) w := by
  cases hq : P.info? elem with
  | none => simp [hq] at hs
  | some i =>
    have hi : i.size = 5 := by simpa [hq] using hs
    have hm : Nat.min 0 dLen = 0 := Nat.zero_min _
    cases a with
    | none => simp [Builtin.copy_, run_underlying hu, Builtin.lenOf, Builtin.firstCells, sizeOf, typeInfo, hq, storeCells]
    | some a => simp [Builtin.copy_, run_underlying hu, Builtin.lenOf, Builtin.firstCells, sizeOf, typeInfo, hq, hm, loadCells, loadCellsFrom, storeCells]
theorem lend_nil (a : Option Addr) (c : Nat) (w : World) :
    Calls Tryz.prog 31 #[.slice a 0 c] w fun e w' => e = .returned (.slice (some ⟨w.heap.size, 0, none⟩) (0 + 8) (0 + 8)) ∧ Blk w' w.heap.size ([] ++ spare 8) ∧ Below w.heap.size w w' :=
  lend_core a c [] w (by simp) fun w1 hb hbel => ⟨w1, fun ty => run_copy_zero w1 _ _ ty 35 _ a _ _ c Tryz.prog Tryz.underlying37 flowSize, hb, hbel⟩
theorem lend_F (v : Value) (l : List Fl) (w : World) (hw : Fls w v l) (hl : l.length * 40 ≤ 140737488355328) :
    Calls Tryz.prog 31 #[v] w fun e w' => e = .returned (.slice (some ⟨w.heap.size, 0, none⟩) (l.length + 8) (l.length + 8)) ∧ Blk w' w.heap.size (l ++ spare 8) ∧ Below w.heap.size w w' := by
  rcases hw with ⟨rfl, a, c, rfl⟩ | ⟨b, o, c, rfl, h⟩
  · exact lend_nil a c w
  · exact lend_some b o c l w h hl
end Go.Proofs.YtcnmajndackohaaGreatDoor
