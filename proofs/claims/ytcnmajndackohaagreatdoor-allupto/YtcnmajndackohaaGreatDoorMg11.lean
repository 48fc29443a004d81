import Derived.Test.YtcnmajndackohaaGreatDoorMg06
import Derived.Deep.LoopGhost
/-
  errors.Is and errors.As at a sentinel behind any number of wraps.
-/
namespace Go.Proofs.YtcnmajndackohaaGreatDoor
open Go.RowKit Go.Extern.Stop Go.Stop Go.Extern
/-- A sentinel, and wraps around it. -/
def snt (a : Addr) : Value := .iface 242 (.pointer (some a))
def chn : List ByteArray → Addr → Value
  | [], a => snt a
  | s :: l, a => plc s (chn l a)
theorem chn_form (l : List ByteArray) (a : Addr) : ∃ T v, chn l a = .iface T v := by
  cases l with
  | nil => exact ⟨_, _, rfl⟩
  | cons s l => exact ⟨_, _, rfl⟩
theorem noAsE (v : Value) (xT : TypeId) (w : World) : (Instr.typeAssert (.iface 242 v) xT 171 true).run Tryz.prog w = .ok (.tuple #[.nilIface, .bool false]) w := run_typeAssert_lacksB Tryz.underlying171 (by kernel_rfl) (by kernel_rfl) v xT w
theorem bel1 {w : World} (o : Obj) : Below w.heap.size w (w.alloc o) := (Below.refl _ _).alloc (Nat.le_refl _) _
theorem belThen {a b c : World} (h : Below a.heap.size a b) (k : Below b.heap.size b c) : Below a.heap.size a c := h.trans (k.mono h.size)
set_option maxRecDepth 100000 in
set_option maxHeartbeats 2000000 in
theorem is_chain (l : List ByteArray) (a : Addr) (w : World) :
    Calls Tryz.prog 74 #[chn l a, snt a, .bool true] w fun e w' => e = .returned (.bool true) ∧ Below w.heap.size w w' := by
  obtain ⟨i, hi, hcmp⟩ := Option.map_eq_some_iff.1 isComp
  obtain ⟨j, hj, hjs⟩ := Option.map_eq_some_iff.1 isSize
  have nP := noIsP
  have uP := hasUnwrapP
  have heq := fun W => run_eql_iface_ptr_same (P := Tryz.prog) W a Tryz.underlying66 Tryz.underlying242 hi hcmp hj
  unfold snt
  generalize hE : chn l a = E
  have HE := hide hE
  clear hE
  go_enter Tryz.func74, Tryz.ntmps74
  go_wp2_with fail
  go_loopg [0] (l.length + 1) (fun k v wr => (∃ l' : List ByteArray, v = chn l' a ∧ l'.length < k) ∧ Below w.heap.size w wr)
  case atStart => exact ⟨⟨l, (unhide HE).symm, Nat.lt_succ_self _⟩, Below.refl _ _⟩
  case round =>
    obtain ⟨⟨l', rfl, hk⟩, hbel⟩ := hrel
    have HB := hide hbel
    have HK := hide hk
    clear hbel hk
    cases l' with
    | nil =>
      unfold chn snt
      go_wp2
      go_ret
      exact ⟨rfl, unhide HB⟩
    | cons s l' =>
      obtain ⟨T, x, hx⟩ := chn_form l' a
      have HX := hide hx
      have hch : chn (s :: l') a = .iface 134 (.agg #[.string s, .iface T x]) := by
        show plc s (chn l' a) = _
        rw [hx]; rfl
      rw [hch]
      clear hch hx
      have hty := fun W => run_eql_iface_types (P := Tryz.prog) 134 242 (.agg #[.string s, .iface T x]) (.pointer (some a)) Tryz.underlying66 (by decide) W
      go_wp2
      go_roundg (l'.length + 1)
      case measure => have := unhide HK; simp at this; omega
      case rel => exact ⟨⟨l', (unhide HX).symm, Nat.lt_succ_self _⟩, belThen (unhide HB) (bel1 _)⟩
set_option maxRecDepth 100000 in
set_option maxHeartbeats 2000000 in
theorem is_top (l : List ByteArray) (a : Addr) (w : World) :
    Calls Tryz.prog 49 #[chn l a, snt a] w fun e w' => e = .returned (.bool true) ∧ Below w.heap.size w w' := by
  have tT := callTypeOf
  have cT := callComparable
  have HI := hide (is_chain l a)
  obtain ⟨T, x, hx⟩ := chn_form l a
  rw [hx] at HI ⊢
  unfold snt at HI ⊢
  clear hx
  go_enter Tryz.func49, Tryz.ntmps49
  go_wp2_with fail
  refine (unhide HI _).mono ?_
  rintro e w1 ⟨rfl, hb⟩
  have HB := hide hb
  clear hb
  go_wp2_with fail
  go_ret
  exact ⟨rfl, unhide HB⟩
set_option maxRecDepth 100000 in
set_option maxHeartbeats 2000000 in
theorem as_chain (l : List ByteArray) (a : Addr) (tv : Value) (vv : Value) (w : World) (hag : ∃ c, vv = .agg #[.pointer (some ⟨10, 97, none⟩), .pointer (some c), .int .u64 150]) :
    Calls Tryz.prog 72 #[chn l a, tv, vv, .iface 167 (.agg #[.pointer (some ⟨10, 95, none⟩)])] w fun e w' => e = .returned (.bool false) ∧ Below w.heap.size w w' := by
  obtain ⟨c, rfl⟩ := hag
  have f7 := typeOfPl
  have f8 := callTypeOf
  have f9 := asgPl
  have f10 := asgE
  have f12 := noAsP
  have f13 := noAsE
  have uP := hasUnwrapP
  have uE := noUnwrapE
  have vE := noUnwrapsE
  generalize hE : chn l a = E
  have HE := hide hE
  clear hE
  go_enter Tryz.func72, Tryz.ntmps72
  go_wp2_with fail
  go_loopg [0] (l.length + 1) (fun k v wr => (∃ l' : List ByteArray, v = chn l' a ∧ l'.length < k) ∧ Below w.heap.size w wr)
  case atStart => exact ⟨⟨l, (unhide HE).symm, Nat.lt_succ_self _⟩, bel1 _⟩
  case round =>
    obtain ⟨⟨l', rfl, hk⟩, hbel⟩ := hrel
    have HB := hide hbel
    have HK := hide hk
    clear hbel hk
    cases l' with
    | nil =>
      unfold chn snt
      go_wp2
      go_ret
      exact ⟨rfl, unhide HB⟩
    | cons s l' =>
      obtain ⟨T, x, hx⟩ := chn_form l' a
      have HX := hide hx
      have hch : chn (s :: l') a = .iface 134 (.agg #[.string s, .iface T x]) := by
        show plc s (chn l' a) = _
        rw [hx]; rfl
      rw [hch]
      clear hch hx
      go_wp2
      go_roundg (l'.length + 1)
      case measure => have := unhide HK; simp at this; omega
      case rel => exact ⟨⟨l', (unhide HX).symm, Nat.lt_succ_self _⟩, belThen (unhide HB) (bel1 _)⟩
set_option maxRecDepth 100000 in
set_option maxHeartbeats 2000000 in
theorem as_top (l : List ByteArray) (a : Addr) (tb : Nat) (w : World) (hg : w.cell? ⟨6, 0, none⟩ = some (.iface 167 (.agg #[.pointer (some ⟨10, 66, none⟩)]))) :
    Calls Tryz.prog 48 #[chn l a, .iface 97 (.pointer (some ⟨tb, 0, none⟩))] w fun e w' => e = .returned (.bool false) ∧ Below w.heap.size w w' := by
  have zg : 6 < w.heap.size := World.block_lt_of_cell? _ _ hg
  have f1 := valueOfP
  have f2 := typeP
  have f3 := kindP
  have f4 := kindV
  have f5 := elemP
  have f6 := implV
  have n8 := fun X => isNilP ⟨w.heap.size, 0, none⟩ ⟨tb, 0, none⟩ ((w.alloc (.cells #[.pointer (some ⟨tb, 0, none⟩)] 97)).alloc X) (by rw [World.cell?_alloc_past _ _ _ (by simp)]; exact World.cell?_alloc_new _ _ _ 0)
  have hg2 : ∀ X Y : Obj, ((w.alloc X).alloc Y).cell? ⟨6, 0, none⟩ = some (.iface 167 (.agg #[.pointer (some ⟨10, 66, none⟩)])) := fun X Y => by
    rw [World.cell?_alloc_past _ _ _ (by simp; omega), World.cell?_alloc_past _ _ _ zg]; exact hg
  have HI := hide (as_chain l a)
  obtain ⟨T, x, hx⟩ := chn_form l a
  rw [hx] at HI ⊢
  clear hx
  go_enter Tryz.func48, Tryz.ntmps48
  go_wp2_with fail
  refine (unhide HI _ _ _ ⟨_, rfl⟩).mono ?_
  rintro e w1 ⟨rfl, hb⟩
  have HB := hide (belThen (belThen (bel1 _) (bel1 _)) hb)
  clear hb
  go_wp2_with fail
  go_ret
  exact ⟨rfl, unhide HB⟩
end Go.Proofs.YtcnmajndackohaaGreatDoor
