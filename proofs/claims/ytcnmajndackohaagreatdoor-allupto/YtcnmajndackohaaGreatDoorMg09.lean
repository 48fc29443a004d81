import Derived.Test.YtcnmajndackohaaGreatDoorMg06
import Derived.Test.YtcnmajndackohaaGreatDoorMg05
/-
  errors.As at a violation behind one wrap: found, and the target is set.
-/
namespace Go.Proofs.YtcnmajndackohaaGreatDoor
open Go.RowKit Go.Extern.Stop Go.Stop Go.Extern
set_option maxRecDepth 100000 in
set_option maxHeartbeats 4000000 in
theorem as_vio (s : ByteArray) (t : Int) (tb : Nat) (old : Value) (w : World) (hg : w.cell? ⟨6, 0, none⟩ = some (.iface 167 (.agg #[.pointer (some ⟨10, 66, none⟩)]))) (ht0 : w.cell? ⟨tb, 0, none⟩ = some old) (hf0 : w.frozen? ⟨tb, 0, none⟩ = false) (B : Nat) (hB : B ≤ tb) :
    Calls Tryz.prog 48 #[plc s (vio t), .iface 97 (.pointer (some ⟨tb, 0, none⟩))] w fun e w' => e = .returned (.bool true) ∧ Below B w w' ∧ w'.cell? ⟨tb, 0, none⟩ = some (.int .i64 t) := by
  have zg : 6 < w.heap.size := World.block_lt_of_cell? _ _ hg
  have zt : tb < w.heap.size := World.block_lt_of_cell? _ _ ht0
  have f1 := valueOfP
  have f2 := typeP
  have f3 := kindP
  have f4 := kindV
  have f5 := elemP
  have f6 := implV
  have f7 := typeOfPl
  have f8 := typeOfV
  have f9 := asgPl
  have f10 := asgV
  have f11 := valueOfV
  have f12 := noAsP
  have uP := hasUnwrapP
  have n8 := fun X => isNilP ⟨w.heap.size, 0, none⟩ ⟨tb, 0, none⟩ ((w.alloc (.cells #[.pointer (some ⟨tb, 0, none⟩)] 97)).alloc X) (by rw [World.cell?_alloc_past _ _ _ (by simp)]; exact World.cell?_alloc_new _ _ _ 0)
  have hg2 : ∀ X Y : Obj, ((w.alloc X).alloc Y).cell? ⟨6, 0, none⟩ = some (.iface 167 (.agg #[.pointer (some ⟨10, 66, none⟩)])) := fun X Y => by
    rw [World.cell?_alloc_past _ _ _ (by simp; omega), World.cell?_alloc_past _ _ _ zg]; exact hg
  have el := fun X Y Z => elemVP ⟨w.heap.size, 0, none⟩ ⟨tb, 0, none⟩ ((((w.alloc (.cells #[.pointer (some ⟨tb, 0, none⟩)] 97)).alloc X).alloc Y).alloc Z) (by rw [World.cell?_alloc_past _ _ _ (by simp; omega), World.cell?_alloc_past _ _ _ (by simp; omega), World.cell?_alloc_past _ _ _ (by simp)]; exact World.cell?_alloc_new _ _ _ 0)
  have st := fun X Y Z => setV tb (w.heap.size + 1 + 1 + 1 + 1) t old (((((w.alloc (.cells #[.pointer (some ⟨tb, 0, none⟩)] 97)).alloc X).alloc Y).alloc Z).alloc (.cells #[.int .i64 t] 95))
    (by rw [World.cell?_alloc_at _ _ _ _ (by simp)]; rfl)
    (by rw [World.cell?_alloc_past _ _ _ (by simp; omega), World.cell?_alloc_past _ _ _ (by simp; omega), World.cell?_alloc_past _ _ _ (by simp; omega), World.cell?_alloc_past _ _ _ (by simp; omega), World.cell?_alloc_past _ _ _ zt]; exact ht0)
    (by rw [World.frozen?_alloc_old _ _ _ (by simp; omega), World.frozen?_alloc_old _ _ _ (by simp; omega), World.frozen?_alloc_old _ _ _ (by simp; omega), World.frozen?_alloc_old _ _ _ (by simp; omega), World.frozen?_alloc_old _ _ _ (by simp; omega)]; exact hf0)
  unfold plc vio
  go_enter Tryz.func48, Tryz.ntmps48
  go_wp2
  refine wp_loop_rounds 2 ?_
  rw [rounds_succ]
  go_wp2
  rw [rounds_succ]
  go_wp2
  go_ret
  refine ⟨rfl, ?_, ?_⟩
  · exact ((((((Below.refl _ _).alloc (by omega) _).alloc (by simp; omega) _).alloc (by simp; omega) _).alloc (by simp; omega) _).alloc (by simp; omega) _).setCell hB _
  · apply World.cell?_setCell_same (u := old)
    rw [World.cell?_alloc_past _ _ _ (by simp; omega), World.cell?_alloc_past _ _ _ (by simp; omega), World.cell?_alloc_past _ _ _ (by simp; omega), World.cell?_alloc_past _ _ _ (by simp; omega), World.cell?_alloc_past _ _ _ zt]
    exact ht0
end Go.Proofs.YtcnmajndackohaaGreatDoor
/-
  What In, violation, errno and Test do on flows that may be.
-/
namespace Go.Proofs.YtcnmajndackohaaGreatDoor
open Go.RowKit
/-- What the package's variables hold. -/
structure Gl (w : World) (a0 a1 : Addr) : Prop where
  e0 : w.cell? ⟨0, 0, none⟩ = some (.iface 242 (.pointer (some a0)))
  e1 : w.cell? ⟨2, 0, none⟩ = some (.iface 242 (.pointer (some a1)))
  et : w.cell? ⟨6, 0, none⟩ = some (.iface 167 (.agg #[.pointer (some ⟨10, 66, none⟩)]))
  h0 : ∃ c t, w.heap[a0.block]? = some (.cells c t (0, 0))
  h1 : ∃ c t, w.heap[a1.block]? = some (.cells c t (0, 0))
  ne : a1 ≠ a0
  st : Sts w
  sn : ∃ a, Snt w a
theorem Gl.below {w w' : World} {a0 a1 : Addr} (h : Gl w a0 a1) (hb : Below w.heap.size w w') : Gl w' a0 a1 := by
  obtain ⟨c0, t0, k0⟩ := h.h0
  obtain ⟨c1, t1, k1⟩ := h.h1
  exact ⟨(hb.cell (World.block_lt_of_cell? _ _ h.e0)).trans h.e0, (hb.cell (World.block_lt_of_cell? _ _ h.e1)).trans h.e1, (hb.cell (World.block_lt_of_cell? _ _ h.et)).trans h.et,
    ⟨c0, t0, (hb.block _ (lt_of_heap k0)).trans k0⟩, ⟨c1, t1, (hb.block _ (lt_of_heap k1)).trans k1⟩, h.ne, h.st.below hb, let ⟨a, ha⟩ := h.sn; ⟨a, ha.below hb⟩⟩
set_option maxHeartbeats 400000 in
theorem in_none (s : ByteArray) (w : World) :
    Calls Tryz.prog 46 #[.string s, .nilIface] w fun e w' => e = .returned .nilIface ∧ w' = w := by
  go_enter Tryz.func46, Tryz.ntmps46
  go_wp2
  go_ret
  exact ⟨rfl, rfl⟩
set_option maxHeartbeats 400000 in
theorem in_some (s : ByteArray) (T : TypeId) (v : Value) (w : World) :
    Calls Tryz.prog 46 #[.string s, .iface T v] w fun e w' => e = .returned (plc s (.iface T v)) ∧ w' = w := by
  go_enter Tryz.func46, Tryz.ntmps46
  go_wp2
  go_ret
  exact ⟨rfl, rfl⟩
set_option maxHeartbeats 1000000 in
theorem violation_none (w : World) :
    Calls Tryz.prog 27 #[.nilIface] w fun e w' => e = .returned (.int .i64 0) ∧ Below w.heap.size w w' := by
  go_enter Tryz.func27, Tryz.ntmps27
  go_wp2_with fail
  refine (as_none _ _).mono ?_
  rintro e w1 ⟨rfl, rfl⟩
  go_wp2_with fail
  go_ret
  exact ⟨rfl, bel_one _⟩
set_option maxHeartbeats 1000000 in
theorem violation_some (s : ByteArray) (t : Int) (a0 a1 : Addr) (w : World) (hg : Gl w a0 a1) :
    Calls Tryz.prog 27 #[plc s (vio t)] w fun e w' => e = .returned (.int .i64 t) ∧ Below w.heap.size w w' := by
  have HG := hide hg
  clear hg
  generalize hE : plc s (vio t) = E
  have HE := hide hE
  clear hE
  go_enter Tryz.func27, Tryz.ntmps27
  go_wp2_with fail
  rw [← unhide HE]
  refine (as_vio s t w.heap.size (.int .i64 0) _ ((unhide HG).below (bel_one _)).et (World.cell?_alloc_new _ _ _ 0) ?_ w.heap.size (Nat.le_refl _)).mono ?_
  · simp [go_sem]
  rintro e w1 ⟨rfl, hb, hc⟩
  have HB := hide hb
  clear hb
  go_wp2_with fail
  go_ret
  exact ⟨rfl, ((Below.refl _ _).alloc (Nat.le_refl _) _).trans (unhide HB)⟩
set_option maxHeartbeats 1000000 in
theorem errno_late (s : ByteArray) (t : Int) (a0 a1 : Addr) (w : World) (hg : Gl w a0 a1) :
    Calls Tryz.prog 28 #[plc s (vio t)] w fun e w' => e = .returned (.int .i64 3) ∧ Below w.heap.size w w' := by
  have g0 := hg.e0
  have HG := hide hg
  clear hg
  generalize hE : plc s (vio t) = E
  have HE := hide hE
  clear hE
  go_enter Tryz.func28, Tryz.ntmps28
  go_wp2_with fail
  rw [← unhide HE]
  obtain ⟨c0, t0, k0⟩ := (unhide HG).h0
  obtain ⟨c1, t1, k1⟩ := (unhide HG).h1
  refine (is_notarg s t a0 a1 c0 c1 t0 t1 _ (unhide HG).e1 (unhide HG).ne k0 k1).mono ?_
  rintro e w1 ⟨rfl, hb⟩
  have hG1 := (unhide HG).below hb
  have g1 := hG1.e1
  have HG1 := hide hG1
  have HB := hide hb
  obtain ⟨a, hsn⟩ := hG1.sn
  have g2 := hsn.c 1 (by decide)
  have ha1 : a 2 = a1 := by
    have := (hsn.c 2 (by decide)).symm.trans hG1.e1
    simpa using this
  have hne2 : a1 ≠ a 1 := by rw [← ha1]; exact hsn.ne _ (by decide) _ (by decide) (by decide)
  obtain ⟨cf, tf, kf⟩ := hsn.h 1 (by decide)
  obtain ⟨c2, t2, k2⟩ := hG1.h1
  have HN := hide hne2
  have HKf := hide kf
  have HK1 := hide k2
  clear hb hG1 k0 k1 g0 hsn ha1 hne2 kf k2
  generalize a 1 = af at *
  rw [unhide HE]
  go_wp2_with fail
  rw [← unhide HE]
  refine (is_notarg s t af a1 cf c2 tf t2 _ (unhide HG1).e1 (unhide HN) (unhide HKf) (unhide HK1)).mono ?_
  rintro e w3 ⟨rfl, hb3⟩
  have hG3 := (unhide HG1).below hb3
  have g3 := hG3.e1
  have HG3 := hide hG3
  have HB3 := hide (bel_then (unhide HB) hb3)
  clear hb3 hG3 g1 g2 HKf HK1 HG1
  rw [unhide HE]
  go_wp2_with fail
  rw [← unhide HE]
  refine (is_late s t a1 _ (unhide HG3).e1).mono ?_
  rintro e w2 ⟨rfl, hb2⟩
  have HB2 := hide hb2
  clear hb2
  go_wp2_with fail
  go_ret
  exact ⟨rfl, bel_then (unhide HB3) (unhide HB2)⟩
set_option maxHeartbeats 1000000 in
theorem ftest_none (v : Value) (l : List Fl) (w : World) (hw : Fls w v l) (hl : l.length ≤ 6) (hm : ∀ f ∈ l, f.may) (hv : viol l = 0) :
    Calls Tryz.prog 26 #[v] w fun e w' => e = .returned .nilIface ∧ Below w.heap.size w w' := by
  have HW := hide hw
  have HL := hide hl
  have HM := hide hm
  have HV := hide hv
  clear hw hl hm hv
  go_enter Tryz.func26, Tryz.ntmps26
  go_wp2_with fail
  refine (checkAll_F v l _ (unhide HW) (unhide HL) (unhide HM)).mono ?_
  rintro e w1 ⟨rfl, hb⟩
  have HB := hide hb
  clear hb
  go_wp2_with fail
  refine (fit_any v l _ ((unhide HW).below (unhide HB)) (unhide HL) (unhide HM)).mono ?_
  rintro e w2 ⟨rfl, hb2⟩
  have HB2 := hide hb2
  clear hb2
  rw [fitV_none (unhide HV)]
  go_wp2_with fail
  refine (in_none _ _).mono ?_
  rintro e w3 ⟨rfl, rfl⟩
  go_wp2_with fail
  go_ret
  exact ⟨rfl, bel_then (unhide HB) (unhide HB2)⟩
set_option maxHeartbeats 1000000 in
theorem ftest_some (v : Value) (l : List Fl) (w : World) (hw : Fls w v l) (hl : l.length ≤ 6) (hm : ∀ f ∈ l, f.may) (hv : ¬ viol l = 0) :
    Calls Tryz.prog 26 #[v] w fun e w' => (∃ s, e = .returned (plc s (vio (viol l)))) ∧ Below w.heap.size w w' := by
  have HW := hide hw
  have HL := hide hl
  have HM := hide hm
  have HV := hide hv
  clear hw hl hm hv
  go_enter Tryz.func26, Tryz.ntmps26
  go_wp2_with fail
  refine (checkAll_F v l _ (unhide HW) (unhide HL) (unhide HM)).mono ?_
  rintro e w1 ⟨rfl, hb⟩
  have HB := hide hb
  clear hb
  go_wp2_with fail
  refine (fit_any v l _ ((unhide HW).below (unhide HB)) (unhide HL) (unhide HM)).mono ?_
  rintro e w2 ⟨rfl, hb2⟩
  have HB2 := hide hb2
  clear hb2
  rw [fitV_some (unhide HV)]
  unfold vio
  go_wp2_with fail
  refine (in_some _ _ _ _).mono ?_
  rintro e w3 ⟨rfl, rfl⟩
  go_wp2_with fail
  go_ret
  exact ⟨⟨_, rfl⟩, bel_then (unhide HB) (unhide HB2)⟩
/-- The number of what Test answers. -/
def tno (l : List Fl) : Int := if viol l = 0 then 0 else 3
set_option maxHeartbeats 1000000 in
theorem test_any (v : Value) (l : List Fl) (a0 a1 : Addr) (w : World) (hg : Gl w a0 a1) (hw : Fls w v l) (hl : l.length ≤ 6) (hm : ∀ f ∈ l, f.may) :
    Calls Tryz.prog 10 #[v] w fun e w' => e = .returned (.tuple #[.int .i64 (viol l), .int .i64 (tno l)]) ∧ Below w.heap.size w w' := by
  have HG := hide hg
  have HW := hide hw
  have HL := hide hl
  have HM := hide hm
  clear hg hw hl hm
  by_cases hv : viol l = 0
  · have HV := hide hv
    clear hv
    go_enter Tryz.func10, Tryz.ntmps10
    go_wp2_with fail
    refine (ftest_none v l _ (unhide HW) (unhide HL) (unhide HM) (unhide HV)).mono ?_
    rintro e w1 ⟨rfl, hb⟩
    have HB := hide hb
    clear hb
    go_wp2_with fail
    refine (violation_none _).mono ?_
    rintro e w2 ⟨rfl, hb2⟩
    have HB2 := hide hb2
    clear hb2
    have hG2 := ((unhide HG).below (unhide HB)).below (unhide HB2)
    have HG2 := hide hG2
    clear hG2
    go_wp2_with fail
    refine (errno_none _ (unhide HG2).st).mono ?_
    rintro e w3 ⟨rfl, rfl⟩
    go_wp2_with fail
    go_ret2
    exact ⟨ret_val (by unfold tno; rw [if_pos (unhide HV), unhide HV]; rfl), bel_then (unhide HB) (unhide HB2)⟩
  · have HV := hide hv
    clear hv
    go_enter Tryz.func10, Tryz.ntmps10
    go_wp2_with fail
    refine (ftest_some v l _ (unhide HW) (unhide HL) (unhide HM) (unhide HV)).mono ?_
    rintro e w1 ⟨⟨s, rfl⟩, hb⟩
    have HB := hide hb
    clear hb
    generalize hE : plc s (vio (viol l)) = E
    have HE := hide hE
    clear hE
    go_wp2_with fail
    rw [← unhide HE]
    refine (violation_some s (viol l) a0 a1 _ ((unhide HG).below (unhide HB))).mono ?_
    rintro e w2 ⟨rfl, hb2⟩
    have HB2 := hide hb2
    clear hb2
    rw [unhide HE]
    go_wp2_with fail
    rw [← unhide HE]
    refine (errno_late s (viol l) a0 a1 _ (((unhide HG).below (unhide HB)).below (unhide HB2))).mono ?_
    rintro e w3 ⟨rfl, hb3⟩
    have HB3 := hide hb3
    clear hb3
    go_wp2_with fail
    go_ret2
    exact ⟨ret_val (by unfold tno; rw [if_neg (unhide HV)]; rfl), bel_then (bel_then (unhide HB) (unhide HB2)) (unhide HB3)⟩
end Go.Proofs.YtcnmajndackohaaGreatDoor
