import Derived.Test.YtcnmajndackohaaGreatDoorMg21
/-
  errors.Is at a sentinel behind wraps and another one; errno of each.
-/
namespace Go.Proofs.YtcnmajndackohaaGreatDoor
open Go.RowKit Go.Extern.Stop Go.Stop Go.Extern
set_option maxRecDepth 100000 in
set_option maxHeartbeats 2000000 in
theorem is_chain_no (l : List ByteArray) (a b : Addr) (ca cb : Array Value) (ta tb : TypeId) (w : World) (hne : a ≠ b) (ha : w.heap[a.block]? = some (.cells ca ta (0, 0))) (hb : w.heap[b.block]? = some (.cells cb tb (0, 0))) :
    Calls Tryz.prog 74 #[chn l a, snt b, .bool true] w fun e w' => e = .returned (.bool false) ∧ Below w.heap.size w w' := by
  obtain ⟨i, hi, hcmp⟩ := Option.map_eq_some_iff.1 isComp
  obtain ⟨j, hj, hjs⟩ := Option.map_eq_some_iff.1 isSize
  have nP := noIsP
  have uP := hasUnwrapP
  have nE := noIsE
  have uE := noUnwrapE
  have vE := noUnwrapsE
  have hl0 : a.block < w.heap.size := lt_of_heap ha
  have hl1 : b.block < w.heap.size := lt_of_heap hb
  have HEq := hide (fun (W : World) (hW : Below w.heap.size w W) => run_eql_iface_ptr_other (P := Tryz.prog) W Tryz.underlying66 Tryz.underlying242 hi hcmp hj (by rw [hjs]; decide) hne ((hW.block _ hl0).trans ha) ((hW.block _ hl1).trans hb))
  unfold snt
  generalize hE : chn l a = E
  have HE := hide hE
  clear hE ha hb
  go_enter Tryz.func74, Tryz.ntmps74
  go_wp2_with fail
  go_loopg [0] (l.length + 1) (fun k v wr => (∃ l' : List ByteArray, v = chn l' a ∧ l'.length < k) ∧ Below w.heap.size w wr)
  case atStart => exact ⟨⟨l, (unhide HE).symm, Nat.lt_succ_self _⟩, Below.refl _ _⟩
  case round =>
    obtain ⟨⟨l', rfl, hk⟩, hbel⟩ := hrel
    have HB := hide hbel
    have HK := hide hk
    cases l' with
    | nil =>
      have heq := unhide HEq _ hbel
      clear hbel hk
      unfold chn snt
      go_wp2
      go_ret
      exact ⟨rfl, unhide HB⟩
    | cons s l' =>
      clear hbel hk
      obtain ⟨T, x, hx⟩ := chn_form l' a
      have HX := hide hx
      have hch : chn (s :: l') a = .iface 134 (.agg #[.string s, .iface T x]) := by
        show plc s (chn l' a) = _
        rw [hx]; rfl
      rw [hch]
      clear hch hx
      have hty := fun W => run_eql_iface_types (P := Tryz.prog) 134 242 (.agg #[.string s, .iface T x]) (.pointer (some b)) Tryz.underlying66 (by decide) W
      go_wp2
      go_roundg (l'.length + 1)
      case measure => have := unhide HK; simp at this; omega
      case rel => exact ⟨⟨l', (unhide HX).symm, Nat.lt_succ_self _⟩, belThen (unhide HB) (bel1 _)⟩
set_option maxRecDepth 100000 in
set_option maxHeartbeats 2000000 in
theorem is_no (l : List ByteArray) (a b : Addr) (ca cb : Array Value) (ta tb : TypeId) (w : World) (hne : a ≠ b) (ha : w.heap[a.block]? = some (.cells ca ta (0, 0))) (hb : w.heap[b.block]? = some (.cells cb tb (0, 0))) :
    Calls Tryz.prog 49 #[chn l a, snt b] w fun e w' => e = .returned (.bool false) ∧ Below w.heap.size w w' := by
  have tT := callTypeOf
  have cT := callComparable
  have HI := hide (is_chain_no l a b ca cb ta tb w hne ha hb)
  obtain ⟨T, x, hx⟩ := chn_form l a
  rw [hx] at HI ⊢
  unfold snt at HI ⊢
  clear hx ha hb
  go_enter Tryz.func49, Tryz.ntmps49
  go_wp2_with fail
  refine (unhide HI).mono ?_
  rintro e w1 ⟨rfl, hb⟩
  have HB := hide hb
  clear hb
  go_wp2_with fail
  go_ret
  exact ⟨rfl, unhide HB⟩
theorem sn_no (l : List ByteArray) (a : Nat → Addr) (w : World) (h : Snt w a) {g g' : Nat} (hg : g ∈ sents) (hg' : g' ∈ sents) (hne : g ≠ g') :
    Calls Tryz.prog 49 #[chn l (a g), .iface 242 (.pointer (some (a g')))] w fun e w' => e = .returned (.bool false) ∧ Below w.heap.size w w' := by
  obtain ⟨c1, t1, h1⟩ := h.h g hg
  obtain ⟨c2, t2, h2⟩ := h.h g' hg'
  exact is_no l (a g) (a g') c1 c2 t1 t2 w (h.ne g hg g' hg' hne) h1 h2
set_option maxRecDepth 100000 in
set_option maxHeartbeats 2000000 in
theorem errno_ErrFull (l : List ByteArray) (a : Nat → Addr) (w : World) (h : Snt w a) :
    Calls Tryz.prog 28 #[chn l (a 1)] w fun e w' => e = .returned (.int .i64 2) ∧ Below w.heap.size w w' := by
  have HS := hide h
  generalize hE : chn l (a 1) = E
  have HE := hide hE
  have g0 := h.c 0 (by decide)
  clear hE h
  go_enter Tryz.func28, Tryz.ntmps28
  go_wp2_with fail
  rw [← unhide HE]
  refine (sn_no l a _ (unhide HS) (by decide) (by decide) (by decide)).mono ?_
  rintro e w1 ⟨rfl, hb⟩
  have HS1 := hide ((unhide HS).below hb)
  have HB1 := hide (hb)
  have g1 := (unhide HS1).c 1 (by decide)
  clear hb g0 HS
  have HS := HS1
  clear HS1
  rw [unhide HE]
  go_wp2_with fail
  rw [← unhide HE]
  refine (is_top l (a 1) _).mono ?_
  rintro e wz ⟨rfl, hb⟩
  have HBz := hide (bel_then (unhide HB1) hb)
  clear hb
  rw [unhide HE]
  go_wp2_with fail
  go_ret
  exact ⟨rfl, unhide HBz⟩
set_option maxRecDepth 100000 in
set_option maxHeartbeats 2000000 in
theorem errno_ErrNone (l : List ByteArray) (a : Nat → Addr) (w : World) (h : Snt w a) :
    Calls Tryz.prog 28 #[chn l (a 3)] w fun e w' => e = .returned (.int .i64 4) ∧ Below w.heap.size w w' := by
  have HS := hide h
  generalize hE : chn l (a 3) = E
  have HE := hide hE
  have g0 := h.c 0 (by decide)
  clear hE h
  go_enter Tryz.func28, Tryz.ntmps28
  go_wp2_with fail
  rw [← unhide HE]
  refine (sn_no l a _ (unhide HS) (by decide) (by decide) (by decide)).mono ?_
  rintro e w1 ⟨rfl, hb⟩
  have HS1 := hide ((unhide HS).below hb)
  have HB1 := hide (hb)
  have g1 := (unhide HS1).c 1 (by decide)
  clear hb g0 HS
  have HS := HS1
  clear HS1
  rw [unhide HE]
  go_wp2_with fail
  rw [← unhide HE]
  refine (sn_no l a _ (unhide HS) (by decide) (by decide) (by decide)).mono ?_
  rintro e w2 ⟨rfl, hb⟩
  have HS2 := hide ((unhide HS).below hb)
  have HB2 := hide (bel_then (unhide HB1) hb)
  have g2 := (unhide HS2).c 2 (by decide)
  clear hb g1 HS
  have HS := HS2
  clear HS2
  rw [unhide HE]
  go_wp2_with fail
  rw [← unhide HE]
  refine (sn_no l a _ (unhide HS) (by decide) (by decide) (by decide)).mono ?_
  rintro e w3 ⟨rfl, hb⟩
  have HS3 := hide ((unhide HS).below hb)
  have HB3 := hide (bel_then (unhide HB2) hb)
  have g3 := (unhide HS3).c 3 (by decide)
  clear hb g2 HS
  have HS := HS3
  clear HS3
  rw [unhide HE]
  go_wp2_with fail
  rw [← unhide HE]
  refine (is_top l (a 3) _).mono ?_
  rintro e wz ⟨rfl, hb⟩
  have HBz := hide (bel_then (unhide HB3) hb)
  clear hb
  rw [unhide HE]
  go_wp2_with fail
  go_ret
  exact ⟨rfl, unhide HBz⟩
set_option maxRecDepth 100000 in
set_option maxHeartbeats 2000000 in
theorem errno_ErrSize (l : List ByteArray) (a : Nat → Addr) (w : World) (h : Snt w a) :
    Calls Tryz.prog 28 #[chn l (a 4)] w fun e w' => e = .returned (.int .i64 5) ∧ Below w.heap.size w w' := by
  have HS := hide h
  generalize hE : chn l (a 4) = E
  have HE := hide hE
  have g0 := h.c 0 (by decide)
  clear hE h
  go_enter Tryz.func28, Tryz.ntmps28
  go_wp2_with fail
  rw [← unhide HE]
  refine (sn_no l a _ (unhide HS) (by decide) (by decide) (by decide)).mono ?_
  rintro e w1 ⟨rfl, hb⟩
  have HS1 := hide ((unhide HS).below hb)
  have HB1 := hide (hb)
  have g1 := (unhide HS1).c 1 (by decide)
  clear hb g0 HS
  have HS := HS1
  clear HS1
  rw [unhide HE]
  go_wp2_with fail
  rw [← unhide HE]
  refine (sn_no l a _ (unhide HS) (by decide) (by decide) (by decide)).mono ?_
  rintro e w2 ⟨rfl, hb⟩
  have HS2 := hide ((unhide HS).below hb)
  have HB2 := hide (bel_then (unhide HB1) hb)
  have g2 := (unhide HS2).c 2 (by decide)
  clear hb g1 HS
  have HS := HS2
  clear HS2
  rw [unhide HE]
  go_wp2_with fail
  rw [← unhide HE]
  refine (sn_no l a _ (unhide HS) (by decide) (by decide) (by decide)).mono ?_
  rintro e w3 ⟨rfl, hb⟩
  have HS3 := hide ((unhide HS).below hb)
  have HB3 := hide (bel_then (unhide HB2) hb)
  have g3 := (unhide HS3).c 3 (by decide)
  clear hb g2 HS
  have HS := HS3
  clear HS3
  rw [unhide HE]
  go_wp2_with fail
  rw [← unhide HE]
  refine (sn_no l a _ (unhide HS) (by decide) (by decide) (by decide)).mono ?_
  rintro e w4 ⟨rfl, hb⟩
  have HS4 := hide ((unhide HS).below hb)
  have HB4 := hide (bel_then (unhide HB3) hb)
  have g4 := (unhide HS4).c 4 (by decide)
  clear hb g3 HS
  have HS := HS4
  clear HS4
  rw [unhide HE]
  go_wp2_with fail
  rw [← unhide HE]
  refine (is_top l (a 4) _).mono ?_
  rintro e wz ⟨rfl, hb⟩
  have HBz := hide (bel_then (unhide HB4) hb)
  clear hb
  rw [unhide HE]
  go_wp2_with fail
  go_ret
  exact ⟨rfl, unhide HBz⟩
set_option maxRecDepth 100000 in
set_option maxHeartbeats 2000000 in
theorem errno_ErrQuota (l : List ByteArray) (a : Nat → Addr) (w : World) (h : Snt w a) :
    Calls Tryz.prog 28 #[chn l (a 5)] w fun e w' => e = .returned (.int .i64 6) ∧ Below w.heap.size w w' := by
  have HS := hide h
  generalize hE : chn l (a 5) = E
  have HE := hide hE
  have g0 := h.c 0 (by decide)
  clear hE h
  go_enter Tryz.func28, Tryz.ntmps28
  go_wp2_with fail
  rw [← unhide HE]
  refine (sn_no l a _ (unhide HS) (by decide) (by decide) (by decide)).mono ?_
  rintro e w1 ⟨rfl, hb⟩
  have HS1 := hide ((unhide HS).below hb)
  have HB1 := hide (hb)
  have g1 := (unhide HS1).c 1 (by decide)
  clear hb g0 HS
  have HS := HS1
  clear HS1
  rw [unhide HE]
  go_wp2_with fail
  rw [← unhide HE]
  refine (sn_no l a _ (unhide HS) (by decide) (by decide) (by decide)).mono ?_
  rintro e w2 ⟨rfl, hb⟩
  have HS2 := hide ((unhide HS).below hb)
  have HB2 := hide (bel_then (unhide HB1) hb)
  have g2 := (unhide HS2).c 2 (by decide)
  clear hb g1 HS
  have HS := HS2
  clear HS2
  rw [unhide HE]
  go_wp2_with fail
  rw [← unhide HE]
  refine (sn_no l a _ (unhide HS) (by decide) (by decide) (by decide)).mono ?_
  rintro e w3 ⟨rfl, hb⟩
  have HS3 := hide ((unhide HS).below hb)
  have HB3 := hide (bel_then (unhide HB2) hb)
  have g3 := (unhide HS3).c 3 (by decide)
  clear hb g2 HS
  have HS := HS3
  clear HS3
  rw [unhide HE]
  go_wp2_with fail
  rw [← unhide HE]
  refine (sn_no l a _ (unhide HS) (by decide) (by decide) (by decide)).mono ?_
  rintro e w4 ⟨rfl, hb⟩
  have HS4 := hide ((unhide HS).below hb)
  have HB4 := hide (bel_then (unhide HB3) hb)
  have g4 := (unhide HS4).c 4 (by decide)
  clear hb g3 HS
  have HS := HS4
  clear HS4
  rw [unhide HE]
  go_wp2_with fail
  rw [← unhide HE]
  refine (sn_no l a _ (unhide HS) (by decide) (by decide) (by decide)).mono ?_
  rintro e w5 ⟨rfl, hb⟩
  have HS5 := hide ((unhide HS).below hb)
  have HB5 := hide (bel_then (unhide HB4) hb)
  have g5 := (unhide HS5).c 5 (by decide)
  clear hb g4 HS
  have HS := HS5
  clear HS5
  rw [unhide HE]
  go_wp2_with fail
  rw [← unhide HE]
  refine (is_top l (a 5) _).mono ?_
  rintro e wz ⟨rfl, hb⟩
  have HBz := hide (bel_then (unhide HB5) hb)
  clear hb
  rw [unhide HE]
  go_wp2_with fail
  go_ret
  exact ⟨rfl, unhide HBz⟩
end Go.Proofs.YtcnmajndackohaaGreatDoor
