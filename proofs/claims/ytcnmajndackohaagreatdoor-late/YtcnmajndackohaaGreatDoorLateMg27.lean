import Derived.Test.YtcnmajndackohaaGreatDoorLateMg26
import Derived.Deep.LoopGhost
/-
  errors.Is and errors.As at a sentinel behind any number of wraps.
-/
namespace Go.Proofs.YtcnmajndackohaaGreatDoor
open Go.RowKit Go.Extern.Stop Go.Stop Go.Extern

/-- A sentinel, and wraps around it. -/
def snt (a : Addr) : Value := .iface 242 (.pointer (some a))
def chn : List ByteArray → Addr → Value
  | [], a => snt a
  | s :: l, a => plc s (chn l a)
theorem chn_form (l : List ByteArray) (a : Addr) : ∃ T v, chn l a = .iface T v := by
  cases l with
  | nil => exact ⟨_, _, rfl⟩
  | cons s l => exact ⟨_, _, rfl⟩
theorem noAsE (v : Value) (xT : TypeId) (w : World) : (Instr.typeAssert (.iface 242 v) xT 171 true).run Tryz.prog w = .ok (.tuple #[.nilIface, .bool false]) w := run_typeAssert_lacksB Tryz.underlying171 (by kernel_rfl) (by kernel_rfl) v xT w
theorem bel1 {w : World} (o : Obj) : Below w.heap.size w (w.alloc o) := (Below.refl _ _).alloc (Nat.le_refl _) _
theorem belThen {a b c : World} (h : Below a.heap.size a b) (k : Below b.heap.size b c) : Below a.heap.size a c := h.trans (k.mono h.size)

set_option maxRecDepth 100000 in
set_option maxHeartbeats 2000000 in
theorem is_chain (l : List ByteArray) (a : Addr) (w : World) :
    Calls Tryz.prog 74 #[chn l a, snt a, .bool true] w fun e w' => e = .returned (.bool true) ∧ Below w.heap.size w w' := by
  obtain ⟨i, hi, hcmp⟩ := Option.map_eq_some_iff.1 isComp
  obtain ⟨j, hj, hjs⟩ := Option.map_eq_some_iff.1 isSize
  have nP := noIsP
  have uP := hasUnwrapP
  have heq := fun W => run_eql_iface_ptr_same (P := Tryz.prog) W a Tryz.underlying66 Tryz.underlying242 hi hcmp hj
  unfold snt
  generalize hE : chn l a = E
  have HE := hide hE
  clear hE
  go_enter Tryz.func74, Tryz.ntmps74
  go_wp2_with fail
  go_loopg [0] (l.length + 1) (fun k v wr => (∃ l' : List ByteArray, v = chn l' a ∧ l'.length < k) ∧ Below w.heap.size w wr)
  case atStart => exact ⟨⟨l, (unhide HE).symm, Nat.lt_succ_self _⟩, Below.refl _ _⟩
  case round =>
    obtain ⟨⟨l', rfl, hk⟩, hbel⟩ := hrel
    have HB := hide hbel
    have HK := hide hk
    clear hbel hk
    cases l' with
    | nil =>
      unfold chn snt
      go_wp2
      go_ret
      exact ⟨rfl, unhide HB⟩
    | cons s l' =>
      obtain ⟨T, x, hx⟩ := chn_form l' a
      have HX := hide hx
      have hch : chn (s :: l') a = .iface 134 (.agg #[.string s, .iface T x]) := by
        show plc s (chn l' a) = _
        rw [hx]; rfl
      rw [hch]
      clear hch hx
      have hty := fun W => run_eql_iface_types (P := Tryz.prog) 134 242 (.agg #[.string s, .iface T x]) (.pointer (some a)) Tryz.underlying66 (by decide) W
      go_wp2
      go_roundg (l'.length + 1)
      case measure => have := unhide HK; simp at this; omega
      case rel => exact ⟨⟨l', (unhide HX).symm, Nat.lt_succ_self _⟩, belThen (unhide HB) (bel1 _)⟩

set_option maxRecDepth 100000 in
set_option maxHeartbeats 2000000 in
theorem is_top (l : List ByteArray) (a : Addr) (w : World) :
    Calls Tryz.prog 49 #[chn l a, snt a] w fun e w' => e = .returned (.bool true) ∧ Below w.heap.size w w' := by
  have tT := callTypeOf
  have cT := callComparable
  have HI := hide (is_chain l a)
  obtain ⟨T, x, hx⟩ := chn_form l a
  rw [hx] at HI ⊢
  unfold snt at HI ⊢
  clear hx
  go_enter Tryz.func49, Tryz.ntmps49
  go_wp2_with fail
  refine (unhide HI _).mono ?_
  rintro e w1 ⟨rfl, hb⟩
  have HB := hide hb
  clear hb
  go_wp2_with fail
  go_ret
  exact ⟨rfl, unhide HB⟩

set_option maxRecDepth 100000 in
set_option maxHeartbeats 2000000 in
theorem as_chain (l : List ByteArray) (a : Addr) (tv : Value) (vv : Value) (w : World) (hag : ∃ c, vv = .agg #[.pointer (some ⟨10, 97, none⟩), .pointer (some c), .int .u64 150]) :
    Calls Tryz.prog 72 #[chn l a, tv, vv, .iface 167 (.agg #[.pointer (some ⟨10, 95, none⟩)])] w fun e w' => e = .returned (.bool false) ∧ Below w.heap.size w w' := by
  obtain ⟨c, rfl⟩ := hag
  have f7 := typeOfPl
  have f8 := callTypeOf
  have f9 := asgPl
  have f10 := asgE
  have f12 := noAsP
  have f13 := noAsE
  have uP := hasUnwrapP
  have uE := noUnwrapE
  have vE := noUnwrapsE
  generalize hE : chn l a = E
  have HE := hide hE
  clear hE
  go_enter Tryz.func72, Tryz.ntmps72
  go_wp2_with fail
  go_loopg [0] (l.length + 1) (fun k v wr => (∃ l' : List ByteArray, v = chn l' a ∧ l'.length < k) ∧ Below w.heap.size w wr)
  case atStart => exact ⟨⟨l, (unhide HE).symm, Nat.lt_succ_self _⟩, bel1 _⟩
  case round =>
    obtain ⟨⟨l', rfl, hk⟩, hbel⟩ := hrel
    have HB := hide hbel
    have HK := hide hk
    clear hbel hk
    cases l' with
    | nil =>
      unfold chn snt
      go_wp2
      go_ret
      exact ⟨rfl, unhide HB⟩
    | cons s l' =>
      obtain ⟨T, x, hx⟩ := chn_form l' a
      have HX := hide hx
      have hch : chn (s :: l') a = .iface 134 (.agg #[.string s, .iface T x]) := by
        show plc s (chn l' a) = _
        rw [hx]; rfl
      rw [hch]
      clear hch hx
      go_wp2
      go_roundg (l'.length + 1)
      case measure => have := unhide HK; simp at this; omega
      case rel => exact ⟨⟨l', (unhide HX).symm, Nat.lt_succ_self _⟩, belThen (unhide HB) (bel1 _)⟩

set_option maxRecDepth 100000 in
set_option maxHeartbeats 2000000 in
theorem as_top (l : List ByteArray) (a : Addr) (tb : Nat) (w : World) (hg : w.cell? ⟨6, 0, none⟩ = some (.iface 167 (.agg #[.pointer (some ⟨10, 66, none⟩)]))) :
    Calls Tryz.prog 48 #[chn l a, .iface 97 (.pointer (some ⟨tb, 0, none⟩))] w fun e w' => e = .returned (.bool false) ∧ Below w.heap.size w w' := by
  have zg : 6 < w.heap.size := World.block_lt_of_cell? _ _ hg
  have f1 := valueOfP
  have f2 := typeP
  have f3 := kindP
  have f4 := kindV
  have f5 := elemP
  have f6 := implV
  have n8 := fun X => isNilP ⟨w.heap.size, 0, none⟩ ⟨tb, 0, none⟩ ((w.alloc (.cells #[.pointer (some ⟨tb, 0, none⟩)] 97)).alloc X) (by rw [World.cell?_alloc_past _ _ _ (by simp)]; exact World.cell?_alloc_new _ _ _ 0)
  have hg2 : ∀ X Y : Obj, ((w.alloc X).alloc Y).cell? ⟨6, 0, none⟩ = some (.iface 167 (.agg #[.pointer (some ⟨10, 66, none⟩)])) := fun X Y => by
    rw [World.cell?_alloc_past _ _ _ (by simp; omega), World.cell?_alloc_past _ _ _ zg]; exact hg
  have HI := hide (as_chain l a)
  obtain ⟨T, x, hx⟩ := chn_form l a
  rw [hx] at HI ⊢
  clear hx
  go_enter Tryz.func48, Tryz.ntmps48
  go_wp2_with fail
  refine (unhide HI _ _ _ ⟨_, rfl⟩).mono ?_
  rintro e w1 ⟨rfl, hb⟩
  have HB := hide (belThen (belThen (bel1 _) (bel1 _)) hb)
  clear hb
  go_wp2_with fail
  go_ret
  exact ⟨rfl, unhide HB⟩
end Go.Proofs.YtcnmajndackohaaGreatDoor
/-
  What Check and Most do at any flow.
-/
namespace Go.Proofs.YtcnmajndackohaaGreatDoor
open Go.RowKit

/-- Within int's range. -/
structure I64 (x : Int) : Prop where
  lo : -9223372036854775808 ≤ x
  hi : x ≤ 9223372036854775807

theorem past3 {w : World} {b o : Nat} {v : Value} (g : w.cell? ⟨b, o, none⟩ = some v) : ∀ X1 X2 X3 : Obj, (((w.alloc X1).alloc X2).alloc X3).cell? ⟨b, o, none⟩ = some v := fun X1 X2 X3 => by
  have z : b < w.heap.size := World.block_lt_of_cell? _ _ g
  rw [World.cell?_alloc_past _ _ _ (by simp; omega), World.cell?_alloc_past _ _ _ (by simp; omega), World.cell?_alloc_past _ _ _ z]; exact g
theorem past4 {w : World} {b o : Nat} {v : Value} (g : w.cell? ⟨b, o, none⟩ = some v) : ∀ X1 X2 X3 X4 : Obj, ((((w.alloc X1).alloc X2).alloc X3).alloc X4).cell? ⟨b, o, none⟩ = some v := fun X1 X2 X3 X4 => by
  have z : b < w.heap.size := World.block_lt_of_cell? _ _ g
  rw [World.cell?_alloc_past _ _ _ (by simp; omega)]; exact past3 g _ _ _
theorem past5 {w : World} {b o : Nat} {v : Value} (g : w.cell? ⟨b, o, none⟩ = some v) : ∀ X1 X2 X3 X4 X5 : Obj, (((((w.alloc X1).alloc X2).alloc X3).alloc X4).alloc X5).cell? ⟨b, o, none⟩ = some v := fun X1 X2 X3 X4 X5 => by
  have z : b < w.heap.size := World.block_lt_of_cell? _ _ g
  rw [World.cell?_alloc_past _ _ _ (by simp; omega)]; exact past4 g _ _ _ _
theorem past6 {w : World} {b o : Nat} {v : Value} (g : w.cell? ⟨b, o, none⟩ = some v) : ∀ X1 X2 X3 X4 X5 X6 : Obj, ((((((w.alloc X1).alloc X2).alloc X3).alloc X4).alloc X5).alloc X6).cell? ⟨b, o, none⟩ = some v := fun X1 X2 X3 X4 X5 X6 => by
  have z : b < w.heap.size := World.block_lt_of_cell? _ _ g
  rw [World.cell?_alloc_past _ _ _ (by simp; omega)]; exact past5 g _ _ _ _ _
theorem past7 {w : World} {b o : Nat} {v : Value} (g : w.cell? ⟨b, o, none⟩ = some v) : ∀ X1 X2 X3 X4 X5 X6 X7 : Obj, (((((((w.alloc X1).alloc X2).alloc X3).alloc X4).alloc X5).alloc X6).alloc X7).cell? ⟨b, o, none⟩ = some v := fun X1 X2 X3 X4 X5 X6 X7 => by
  have z : b < w.heap.size := World.block_lt_of_cell? _ _ g
  rw [World.cell?_alloc_past _ _ _ (by simp; omega)]; exact past6 g _ _ _ _ _ _

set_option maxRecDepth 100000 in
set_option maxHeartbeats 4000000 in
theorem check_bad1 (s p b r d : Int) (a0 : Addr) (w : World) (g0 : w.cell? ⟨0, 0, none⟩ = some (.iface 242 (.pointer (some a0))))
    (h : s < 2 ∨ (2 ≤ s ∧ 8 < s)) :
    Calls Tryz.prog 67 #[.agg #[.int .i64 s, .int .i64 p, .int .i64 b, .int .i64 r, .int .i64 d]] w fun e w' => (∃ q, e = .returned (chn [q] a0)) ∧ Below w.heap.size w w' := by
  have g3 := past3 g0
  clear g0
  rcases h with h | ⟨h0, h⟩
  all_goals
    go_enter Tryz.func67, Tryz.ntmps67
    go_wp2
    go_rounds 1
    go_ret
    refine ⟨⟨_, rfl⟩, ?_⟩
    go_grown
end Go.Proofs.YtcnmajndackohaaGreatDoor
/-
  What Check does at a flow that may not be: its burst, its rate.
-/
namespace Go.Proofs.YtcnmajndackohaaGreatDoor
open Go.RowKit

set_option maxRecDepth 100000 in
set_option maxHeartbeats 8000000 in
theorem check_bad2 (s p b r d : Int) (a0 : Addr) (w : World) (g0 : w.cell? ⟨0, 0, none⟩ = some (.iface 242 (.pointer (some a0))))
    (s0 : 2 ≤ s) (s1 : s ≤ 8) (h : b < s ∨ (s ≤ b ∧ 30 < b)) :
    Calls Tryz.prog 67 #[.agg #[.int .i64 s, .int .i64 p, .int .i64 b, .int .i64 r, .int .i64 d]] w fun e w' => (∃ q, e = .returned (chn [q] a0)) ∧ Below w.heap.size w w' := by
  have g3 := past4 g0
  clear g0
  rcases h with h | ⟨h0, h⟩
  all_goals
    go_enter Tryz.func67, Tryz.ntmps67
    go_wp2
    go_rounds 2
    go_ret
    refine ⟨⟨_, rfl⟩, ?_⟩
    go_grown

set_option maxRecDepth 100000 in
set_option maxHeartbeats 8000000 in
theorem check_bad3 (s p b r d : Int) (a0 : Addr) (w : World) (g0 : w.cell? ⟨0, 0, none⟩ = some (.iface 242 (.pointer (some a0))))
    (s0 : 2 ≤ s) (s1 : s ≤ 8) (b0 : s ≤ b) (b1 : b ≤ 30) (h : r < 0 ∨ (0 ≤ r ∧ 12 < r)) :
    Calls Tryz.prog 67 #[.agg #[.int .i64 s, .int .i64 p, .int .i64 b, .int .i64 r, .int .i64 d]] w fun e w' => (∃ q, e = .returned (chn [q] a0)) ∧ Below w.heap.size w w' := by
  have g3 := past5 g0
  clear g0
  rcases h with h | ⟨h0, h⟩
  all_goals
    go_enter Tryz.func67, Tryz.ntmps67
    go_wp2
    go_rounds 3
    go_ret
    refine ⟨⟨_, rfl⟩, ?_⟩
    go_grown
end Go.Proofs.YtcnmajndackohaaGreatDoor
