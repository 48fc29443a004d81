import Derived.Test.YtcnmajndackohaaGreatDoorMg03
/-
  What Fit and CheckAll do on flows that may be: the least violation, or none.
-/
namespace Go.Proofs.YtcnmajndackohaaGreatDoor
open Go.RowKit

/-- The value v is a list of the flows l. -/
def Fls (w : World) (v : Value) (l : List Fl) : Prop := (l = [] ∧ ∃ a c, v = .slice a 0 c) ∨ ∃ b o c, v = .slice (some ⟨b, o, none⟩) l.length c ∧ Lies w b o l
theorem Fls.below {w w' : World} {v : Value} {l : List Fl} (h : Fls w v l) (hb : Below w.heap.size w w') : Fls w' v l := by
  rcases h with h | ⟨b, o, c, e, h⟩
  · exact .inl h
  · exact .inr ⟨b, o, c, e, h.below hb⟩

theorem violates_F (v : Value) (l : List Fl) (t : Int) (w : World) (hw : Fls w v l) (hl : l.length ≤ 6) (hm : ∀ f ∈ l, f.may) (t0 : 1 ≤ t) (t1 : t ≤ 10000) :
    Calls Tryz.prog 68 #[v, .int .i64 t] w fun e w' => e = .returned (.bool (vioB l t)) ∧ Below w.heap.size w w' := by
  rcases hw with ⟨rfl, a, c, rfl⟩ | ⟨b, o, c, rfl, h⟩
  · refine (violates_nil a c t w).mono ?_
    rintro e w' ⟨rfl, rfl⟩
    exact ⟨by simp [vioB, tot], Below.refl _ _⟩
  · exact violates_any b o c l t w hl h hm t0 t1

/-- What Fit answers. -/
def fitV (l : List Fl) : Value := if viol l = 0 then .nilIface else vio (viol l)
theorem fitV_none {l : List Fl} (h : viol l = 0) : fitV l = .nilIface := by unfold fitV; rw [if_pos h]
theorem fitV_some {l : List Fl} (h : ¬ viol l = 0) : fitV l = vio (viol l) := by unfold fitV; rw [if_neg h]
theorem ret_val {a b : Value} (h : a = b) : Ending.returned a = .returned b := by rw [h]

set_option maxRecDepth 100000 in
set_option maxHeartbeats 2000000 in
theorem fit_any (v : Value) (l : List Fl) (w : World) (hw : Fls w v l) (hl : l.length ≤ 6) (hm : ∀ f ∈ l, f.may) :
    Calls Tryz.prog 47 #[v] w fun e w' => e = .returned (fitV l) ∧ Below w.heap.size w w' := by
  have HM := hide hm
  have HW := hide hw
  have HL := hide hl
  clear hm hw hl
  go_enter Tryz.func47, Tryz.ntmps47
  go_wp2_with fail
  go_loopw [3] (fun i wr => ∃ k m : Nat, k + m = 1300 ∧ i = .int .i64 ((k : Int) + 1) ∧ viol l = seek l m ((k : Int) + 1) ∧ Below w.heap.size w wr) (fun i _ => 1301 - (intOf i).toNat)
  case atStart => exact ⟨0, 1300, rfl, rfl, rfl, Below.refl _ _⟩
  case round =>
    obtain ⟨k, m, hkm, rfl, hs, hbel⟩ := hrel
    have HK := hide hkm
    have HS := hide hs
    have HBel := hide hbel
    have hk : (k : Int) ≤ 1300 := by omega
    clear hs hbel
    cases m with
    | succ m =>
      have hlt : (k : Int) < 1300 := by omega
      clear hkm
      go_wp2_with fail
      refine (violates_F v l ((k : Int) + 1) _ ((unhide HW).below (unhide HBel)) (unhide HL) (unhide HM) (by omega) (by omega)).mono ?_
      rintro e w1 ⟨rfl, hb1⟩
      have HB1 := hide hb1
      clear hb1
      cases hv : vioB l ((k : Int) + 1)
      · have HV := hide hv
        clear hv
        go_wp2_with fail
        go_roundw
        case rel =>
          refine ⟨k + 1, m, by have := unhide HK; omega, by go_num, ?_, (unhide HBel).trans ((unhide HB1).mono (unhide HBel).size)⟩
          rw [unhide HS, seek_step_no (unhide HV)]
          rfl
        case measure => simp [intOf]; omega
      · have HV := hide hv
        clear hv
        go_wp2_with fail
        go_ret
        refine ⟨ret_val ?_, (unhide HBel).trans ((unhide HB1).mono (unhide HBel).size)⟩
        have e1 : viol l = (k : Int) + 1 := by rw [unhide HS, seek_step_yes (unhide HV)]
        rw [fitV_some (by omega), e1]
        rfl
    | zero =>
      have hlt : (k : Int) = 1300 := by omega
      have HE := hide hlt
      have hge : ¬ (k : Int) + 1 ≤ 1300 := by omega
      clear hkm hlt
      go_wp2_with fail
      go_ret
      refine ⟨ret_val ?_, unhide HBel⟩
      have e1 : viol l = 0 := by rw [unhide HS]; rfl
      rw [fitV_none e1]
      rfl

set_option maxHeartbeats 2000000 in
theorem checkAll_some (b o c : Nat) (l : List Fl) (w : World) (hl : l.length ≤ 6) (hw : Lies w b o l) (hm : ∀ f ∈ l, f.may) :
    Calls Tryz.prog 45 #[.slice (some ⟨b, o, none⟩) l.length c] w fun e w' => e = .returned .nilIface ∧ Below w.heap.size w w' := by
  have HM : Hid (∀ f ∈ l, f.may) := hm
  have HW : Hid (Lies w b o l) := hw
  clear hm hw
  generalize hn : l.length = n at *
  have HN : Hid (l.length = n) := hn
  clear hn
  go_enter Tryz.func45, Tryz.ntmps45
  go_wp2_with fail
  go_loopw [17] (fun i wr => ∃ k : Nat, k ≤ n ∧ i = .int .i64 k ∧ Below w.heap.size w wr) (fun i _ => n - (intOf i).toNat)
  case atStart => exact ⟨0, Nat.zero_le _, rfl, Below.refl _ _⟩
  case round =>
    obtain ⟨k, hk, rfl, hbel⟩ := hrel
    by_cases hlt : k < n
    · have hkl : k < l.length := by rw [unhide HN]; exact hlt
      have hmay := unhide HM l[k] (List.getElem_mem hkl)
      have hL := (unhide HW).below hbel
      have q0 := hL.c0 k hkl
      have q1 := hL.c1 k hkl
      have q2 := hL.c2 k hkl
      have q3 := hL.c3 k hkl
      have q4 := hL.c4 k hkl
      have hbw := hL.blk
      have HY := hide hmay
      have hHB := hide hbel
      clear hL hbel hmay
      generalize hf : l[k] = f at *
      clear hf
      go_wp2_with fail
      refine (check_ok f.s f.p f.b f.r f.d _ (unhide HY)).mono ?_
      rintro e w1 ⟨rfl, hb1⟩
      clear q0 q1 q2 q3 q4
      go_wp2_with fail
      go_roundw
      case rel =>
        refine ⟨k + 1, by omega, by go_num, ?_⟩
        exact (unhide hHB).trans (((Below.refl _ _).alloc (Nat.le_refl _) _).trans (hb1.mono (by simp)) |>.mono (unhide hHB).size)
      case measure => simp [intOf]; omega
    · have hkn : k = n := by omega
      subst hkn
      have HBel := hide hbel
      clear hbel
      go_wp2_with fail
      go_ret
      exact ⟨rfl, unhide HBel⟩
set_option maxHeartbeats 2000000 in
theorem checkAll_nil (a : Option Addr) (c : Nat) (w : World) :
    Calls Tryz.prog 45 #[.slice a 0 c] w fun e w' => e = .returned .nilIface ∧ w' = w := by
  go_enter Tryz.func45, Tryz.ntmps45
  go_wp2_with fail
  go_rounds 1
  go_ret
  exact ⟨rfl, rfl⟩
theorem checkAll_F (v : Value) (l : List Fl) (w : World) (hw : Fls w v l) (hl : l.length ≤ 6) (hm : ∀ f ∈ l, f.may) :
    Calls Tryz.prog 45 #[v] w fun e w' => e = .returned .nilIface ∧ Below w.heap.size w w' := by
  rcases hw with ⟨rfl, a, c, rfl⟩ | ⟨b, o, c, rfl, h⟩
  · refine (checkAll_nil a c w).mono ?_
    rintro e w' ⟨rfl, rfl⟩
    exact ⟨rfl, Below.refl _ _⟩
  · exact checkAll_some b o c l w hl h hm
end Go.Proofs.YtcnmajndackohaaGreatDoor
/-
  errors.As at a violation behind one wrap, and at none: the target is a variable of the violation's type.
-/
namespace Go.Proofs.YtcnmajndackohaaGreatDoor
open Go.RowKit Go.Extern.Stop Go.Stop Go.Extern

/-- errors.As(nil, target). -/
theorem as_none (t : Value) (w : World) :
    Calls Tryz.prog 48 #[.nilIface, t] w fun e w' => e = .returned (.bool false) ∧ w' = w := by
  go_enter Tryz.func48, Tryz.ntmps48
  go_wp2
  go_ret
  exact ⟨rfl, rfl⟩

theorem valueOfP (t : Addr) (w : World) : (callFunc 69 #[.iface 97 (.pointer (some t))]).run Tryz.prog w
    = .ok (.value (.agg #[.pointer (some ⟨10, 97, none⟩), .pointer (some ⟨w.heap.size, 0, none⟩), .int .u64 150])) (w.alloc (.cells #[.pointer (some t)] 97)) := by kernel_rfl
theorem typeP (a : Addr) (w : World) : (callFunc 70 #[.agg #[.pointer (some ⟨10, 97, none⟩), .pointer (some a), .int .u64 150]]).run Tryz.prog w
    = .ok (.value (.iface 167 (.agg #[.pointer (some ⟨10, 97, none⟩)]))) w := by kernel_rfl
theorem kindP (w : World) : (callFunc 170 #[.pointer (some ⟨10, 97, none⟩)]).run Tryz.prog w = .ok (.value (.int .u8 22)) w := by kernel_rfl
theorem kindV (w : World) : (callFunc 170 #[.pointer (some ⟨10, 95, none⟩)]).run Tryz.prog w = .ok (.value (.int .u8 25)) w := by kernel_rfl
theorem elemP (w : World) : (callFunc 190 #[.agg #[.pointer (some ⟨10, 97, none⟩)]]).run Tryz.prog w = .ok (.value (.iface 167 (.agg #[.pointer (some ⟨10, 95, none⟩)]))) w := by kernel_rfl
theorem implV (w : World) : (callFunc 191 #[.agg #[.pointer (some ⟨10, 95, none⟩)], .iface 167 (.agg #[.pointer (some ⟨10, 66, none⟩)])]).run Tryz.prog w = .ok (.value (.bool true)) w := by kernel_rfl
theorem typeOfPl (v : Value) (w : World) : (callFunc 73 #[.iface 134 v]).run Tryz.prog w = .ok (.value (.iface 167 (.agg #[.pointer (some ⟨10, 134, none⟩)]))) w := by kernel_rfl
theorem typeOfV (v : Value) (w : World) : (callFunc 73 #[.iface 95 v]).run Tryz.prog w = .ok (.value (.iface 167 (.agg #[.pointer (some ⟨10, 95, none⟩)]))) w := by kernel_rfl
theorem asgPl (w : World) : (callFunc 188 #[.agg #[.pointer (some ⟨10, 134, none⟩)], .iface 167 (.agg #[.pointer (some ⟨10, 95, none⟩)])]).run Tryz.prog w = .ok (.value (.bool false)) w := by kernel_rfl
theorem asgE (w : World) : (callFunc 188 #[.agg #[.pointer (some ⟨10, 242, none⟩)], .iface 167 (.agg #[.pointer (some ⟨10, 95, none⟩)])]).run Tryz.prog w = .ok (.value (.bool false)) w := by kernel_rfl
theorem asgV (w : World) : (callFunc 188 #[.agg #[.pointer (some ⟨10, 95, none⟩)], .iface 167 (.agg #[.pointer (some ⟨10, 95, none⟩)])]).run Tryz.prog w = .ok (.value (.bool true)) w := by kernel_rfl
theorem valueOfV (t : Int) (w : World) : (callFunc 69 #[.iface 95 (.agg #[.int .i64 t])]).run Tryz.prog w
    = .ok (.value (.agg #[.pointer (some ⟨10, 95, none⟩), .pointer (some ⟨w.heap.size, 0, none⟩), .int .u64 153])) (w.alloc (.cells #[.int .i64 t] 95)) := by kernel_rfl
theorem noAsP (v : Value) (xT : TypeId) (w : World) : (Instr.typeAssert (.iface 134 v) xT 171 true).run Tryz.prog w = .ok (.tuple #[.nilIface, .bool false]) w := run_typeAssert_lacksB Tryz.underlying171 (by kernel_rfl) (by kernel_rfl) v xT w

theorem rlm (z : Sem Value) (f : TypeId → Addr → Nat → Nat → Sem Value) (v : Value) :
    ReflectliteValue.method z f #[v] = (do match ← ReflectliteValue.parts v with | none => z | some (t, a, fl) => f t a fl (fl % 32)) := rfl
theorem partsP (a : Addr) (w : World) : (ReflectliteValue.parts (.agg #[.pointer (some ⟨10, 97, none⟩), .pointer (some a), .int .u64 150])).run Tryz.prog w = .ok (some (97, a, 150)) w := by kernel_rfl
theorem externIsNil (args : Array Value) (w : World) : (callFunc 71 args).run Tryz.prog w = (((ReflectliteValue.method (ReflectliteValue.valueError "reflectlite.Value.IsNil" 0) ReflectliteValue.isNil) args).run Tryz.prog w).andThen fun v w' => .ok (.value v) w' := @run_callFunc_extern Tryz.prog 71 _ (ReflectliteValue.method (ReflectliteValue.valueError "reflectlite.Value.IsNil" 0) ReflectliteValue.isNil) Tryz.func71 (by kernel_rfl) (by kernel_rfl) (by kernel_rfl) (by kernel_rfl) args w
theorem externElem (args : Array Value) (w : World) : (callFunc 97 args).run Tryz.prog w = (((ReflectliteValue.method (ReflectliteValue.valueError "reflectlite.Value.Elem" 0) ReflectliteValue.elem) args).run Tryz.prog w).andThen fun v w' => .ok (.value v) w' := @run_callFunc_extern Tryz.prog 97 _ (ReflectliteValue.method (ReflectliteValue.valueError "reflectlite.Value.Elem" 0) ReflectliteValue.elem) Tryz.func97 (by kernel_rfl) (by kernel_rfl) (by kernel_rfl) (by kernel_rfl) args w
theorem externSet (args : Array Value) (w : World) : (callFunc 98 args).run Tryz.prog w = ((ReflectliteValue.set args).run Tryz.prog w).andThen fun v w' => .ok (.value v) w' := @run_callFunc_extern Tryz.prog 98 _ ReflectliteValue.set Tryz.func98 (by kernel_rfl) (by kernel_rfl) (by kernel_rfl) (by kernel_rfl) args w
theorem isNilP (a p : Addr) (W : World) (ha : W.cell? a = some (.pointer (some p))) :
    (callFunc 71 #[.agg #[.pointer (some ⟨10, 97, none⟩), .pointer (some a), .int .u64 150]]).run Tryz.prog W = .ok (.value (.bool false)) W := by
  rw [externIsNil, rlm]
  simp only [Sem.run_bind, partsP, Result.andThen]
  simp [ReflectliteValue.isNil, loadVar, isAgg, underlying, Tryz.underlying97, ha, Result.andThen]
theorem elemOfP (w : World) : (Rtype.elem? 97).run Tryz.prog w = .ok (some 95) w := by kernel_rfl
theorem mkV (p : Addr) (w : World) : (ReflectliteValue.mk 95 p ReflectliteValue.flagAddr).run Tryz.prog w = .ok (.agg #[.pointer (some ⟨10, 95, none⟩), .pointer (some p), .int .u64 409]) w := by kernel_rfl
theorem elemVP (a p : Addr) (W : World) (ha : W.cell? a = some (.pointer (some p))) :
    (callFunc 97 #[.agg #[.pointer (some ⟨10, 97, none⟩), .pointer (some a), .int .u64 150]]).run Tryz.prog W
      = .ok (.value (.agg #[.pointer (some ⟨10, 95, none⟩), .pointer (some p), .int .u64 409])) W := by
  rw [externElem, rlm]
  simp only [Sem.run_bind, partsP, Result.andThen]
  simp [ReflectliteValue.elem, loadVar, isAgg, underlying, Tryz.underlying97, ha, Result.andThen, elemOfP, mkV]
theorem rls (v x : Value) : ReflectliteValue.set #[v, x] = (do
    let (some (dst, a, fl), some (src, b, _)) := (← ReflectliteValue.parts v, ← ReflectliteValue.parts x)
      | unsupported (.noEntry "extern/(internal/reflectlite.Value).Set.zeroValue")
    if fl / ReflectliteValue.flagAddr % 2 == 0 then unsupported (.noEntry "extern/(internal/reflectlite.Value).Set.unaddressable")
    let val ← loadVar src b
    if ← Rtype.directlyAssignable dst src then storeVar dst a val
    else if ← Rtype.implements dst src then
      if (← Rtype.kind src) == 20 then
        match val with
        | .nilIface => unsupported (.noEntry "extern/reflectlite: a nil value of one interface type handed on as a value of another")
        | _ => storeVar dst a val
      else storeVar dst a (.iface src val)
    else panicString ("reflectlite.Set: value of type " ++ (← Rtype.spelt src) ++ " is not assignable to type " ++ (← Rtype.spelt dst))
    pure (.tuple #[])) := rfl
theorem partsVa (a : Addr) (w : World) : (ReflectliteValue.parts (.agg #[.pointer (some ⟨10, 95, none⟩), .pointer (some a), .int .u64 409])).run Tryz.prog w = .ok (some (95, a, 409)) w := by kernel_rfl
theorem partsV (a : Addr) (w : World) : (ReflectliteValue.parts (.agg #[.pointer (some ⟨10, 95, none⟩), .pointer (some a), .int .u64 153])).run Tryz.prog w = .ok (some (95, a, 153)) w := by kernel_rfl
theorem directV (w : World) : (Rtype.directlyAssignable 95 95).run Tryz.prog w = .ok true w := by kernel_rfl
theorem setV (tb b : Nat) (t : Int) (old : Value) (W : World) (hb : W.cell? ⟨b, 0, none⟩ = some (.int .i64 t)) (ht : W.cell? ⟨tb, 0, none⟩ = some old) (hf : W.frozen? ⟨tb, 0, none⟩ = false) :
    (callFunc 98 #[.agg #[.pointer (some ⟨10, 95, none⟩), .pointer (some ⟨tb, 0, none⟩), .int .u64 409], .agg #[.pointer (some ⟨10, 95, none⟩), .pointer (some ⟨b, 0, none⟩), .int .u64 153]]).run Tryz.prog W
      = .ok (.value (.tuple #[])) (W.setCell ⟨tb, 0, none⟩ (.int .i64 t)) := by
  rw [externSet, rls]
  simp only [Sem.run_bind, partsVa, partsV, Result.andThen]
  simp [ReflectliteValue.flagAddr, loadVar, loadCells, loadCellsFrom, Addr.add, hb, Result.andThen, directV, storeVar, Value.cells, storeCells]
  rw [run_store Tryz.prog W ⟨tb, 0, none⟩ _ _ (by rfl)]
  simp [ht, hf]
end Go.Proofs.YtcnmajndackohaaGreatDoor
/-
  errors.As at a violation behind one wrap: found, and the target is set.
-/
namespace Go.Proofs.YtcnmajndackohaaGreatDoor
open Go.RowKit Go.Extern.Stop Go.Stop Go.Extern

set_option maxRecDepth 100000 in
set_option maxHeartbeats 4000000 in
theorem as_vio (s : ByteArray) (t : Int) (tb : Nat) (old : Value) (w : World) (hg : w.cell? ⟨6, 0, none⟩ = some (.iface 167 (.agg #[.pointer (some ⟨10, 66, none⟩)]))) (ht0 : w.cell? ⟨tb, 0, none⟩ = some old) (hf0 : w.frozen? ⟨tb, 0, none⟩ = false) (B : Nat) (hB : B ≤ tb) :
    Calls Tryz.prog 48 #[plc s (vio t), .iface 97 (.pointer (some ⟨tb, 0, none⟩))] w fun e w' => e = .returned (.bool true) ∧ Below B w w' ∧ w'.cell? ⟨tb, 0, none⟩ = some (.int .i64 t) := by
  have zg : 6 < w.heap.size := World.block_lt_of_cell? _ _ hg
  have zt : tb < w.heap.size := World.block_lt_of_cell? _ _ ht0
  have f1 := valueOfP
  have f2 := typeP
  have f3 := kindP
  have f4 := kindV
  have f5 := elemP
  have f6 := implV
  have f7 := typeOfPl
  have f8 := typeOfV
  have f9 := asgPl
  have f10 := asgV
  have f11 := valueOfV
  have f12 := noAsP
  have uP := hasUnwrapP
  have n8 := fun X => isNilP ⟨w.heap.size, 0, none⟩ ⟨tb, 0, none⟩ ((w.alloc (.cells #[.pointer (some ⟨tb, 0, none⟩)] 97)).alloc X) (by rw [World.cell?_alloc_past _ _ _ (by simp)]; exact World.cell?_alloc_new _ _ _ 0)
  have hg2 : ∀ X Y : Obj, ((w.alloc X).alloc Y).cell? ⟨6, 0, none⟩ = some (.iface 167 (.agg #[.pointer (some ⟨10, 66, none⟩)])) := fun X Y => by
    rw [World.cell?_alloc_past _ _ _ (by simp; omega), World.cell?_alloc_past _ _ _ zg]; exact hg
  have el := fun X Y Z => elemVP ⟨w.heap.size, 0, none⟩ ⟨tb, 0, none⟩ ((((w.alloc (.cells #[.pointer (some ⟨tb, 0, none⟩)] 97)).alloc X).alloc Y).alloc Z) (by rw [World.cell?_alloc_past _ _ _ (by simp; omega), World.cell?_alloc_past _ _ _ (by simp; omega), World.cell?_alloc_past _ _ _ (by simp)]; exact World.cell?_alloc_new _ _ _ 0)
  have st := fun X Y Z => setV tb (w.heap.size + 1 + 1 + 1 + 1) t old (((((w.alloc (.cells #[.pointer (some ⟨tb, 0, none⟩)] 97)).alloc X).alloc Y).alloc Z).alloc (.cells #[.int .i64 t] 95))
    (by rw [World.cell?_alloc_at _ _ _ _ (by simp)]; rfl)
    (by rw [World.cell?_alloc_past _ _ _ (by simp; omega), World.cell?_alloc_past _ _ _ (by simp; omega), World.cell?_alloc_past _ _ _ (by simp; omega), World.cell?_alloc_past _ _ _ (by simp; omega), World.cell?_alloc_past _ _ _ zt]; exact ht0)
    (by rw [World.frozen?_alloc_old _ _ _ (by simp; omega), World.frozen?_alloc_old _ _ _ (by simp; omega), World.frozen?_alloc_old _ _ _ (by simp; omega), World.frozen?_alloc_old _ _ _ (by simp; omega), World.frozen?_alloc_old _ _ _ (by simp; omega)]; exact hf0)
  unfold plc vio
  go_enter Tryz.func48, Tryz.ntmps48
  go_wp2
  refine wp_loop_rounds 2 ?_
  rw [rounds_succ]
  go_wp2
  rw [rounds_succ]
  go_wp2
  go_ret
  refine ⟨rfl, ?_, ?_⟩
  · exact ((((((Below.refl _ _).alloc (by omega) _).alloc (by simp; omega) _).alloc (by simp; omega) _).alloc (by simp; omega) _).alloc (by simp; omega) _).setCell hB _
  · apply World.cell?_setCell_same (u := old)
    rw [World.cell?_alloc_past _ _ _ (by simp; omega), World.cell?_alloc_past _ _ _ (by simp; omega), World.cell?_alloc_past _ _ _ (by simp; omega), World.cell?_alloc_past _ _ _ (by simp; omega), World.cell?_alloc_past _ _ _ zt]
    exact ht0
end Go.Proofs.YtcnmajndackohaaGreatDoor
