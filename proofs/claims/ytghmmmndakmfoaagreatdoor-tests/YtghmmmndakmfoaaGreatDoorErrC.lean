/-
  errors.Is and errors.As at a sentinel behind any number of wraps.
-/
import Derived.Test.YtghmmmndakmfoaaGreatDoorErrAs
import Derived.Deep.LoopGhost
namespace Go.Proofs.YtghmmmndakmfoaaGreatDoor
open Go.RowKit Go.Extern.Stop Go.Stop Go.Extern

/-- A sentinel, and wraps around it. -/
def snt (a : Addr) : Value := .iface 160 (.pointer (some a))
def chn : List ByteArray → Addr → Value
  | [], a => snt a
  | s :: l, a => plc s (chn l a)
theorem chn_form (l : List ByteArray) (a : Addr) : ∃ T v, chn l a = .iface T v := by
  cases l with
  | nil => exact ⟨_, _, rfl⟩
  | cons s l => exact ⟨_, _, rfl⟩
theorem noAsE (v : Value) (xT : TypeId) (w : World) : (Instr.typeAssert (.iface 160 v) xT 109 true).run Tryz.prog w = .ok (.tuple #[.nilIface, .bool false]) w := run_typeAssert_lacksB Tryz.underlying109 (by kernel_rfl) (by kernel_rfl) v xT w
theorem bel1 {w : World} (o : Obj) : Below w.heap.size w (w.alloc o) := (Below.refl _ _).alloc (Nat.le_refl _) _
theorem belThen {a b c : World} (h : Below a.heap.size a b) (k : Below b.heap.size b c) : Below a.heap.size a c := h.trans (k.mono h.size)

set_option maxRecDepth 100000 in
set_option maxHeartbeats 2000000 in
theorem is_chain (l : List ByteArray) (a : Addr) (w : World) :
    Calls Tryz.prog 29 #[chn l a, snt a, .bool true] w fun e w' => e = .returned (.bool true) ∧ Below w.heap.size w w' := by
  obtain ⟨i, hi, hcmp⟩ := Option.map_eq_some_iff.1 isComp
  obtain ⟨j, hj, hjs⟩ := Option.map_eq_some_iff.1 isSize
  have nP := noIsP
  have uP := hasUnwrapP
  have heq := fun W => run_eql_iface_ptr_same (P := Tryz.prog) W a Tryz.underlying41 Tryz.underlying160 hi hcmp hj
  unfold snt
  generalize hE : chn l a = E
  have HE := hide hE
  clear hE
  go_enter Tryz.func29, Tryz.ntmps29
  go_wp2_with fail
  go_loopg [0] (l.length + 1) (fun k v wr => (∃ l' : List ByteArray, v = chn l' a ∧ l'.length < k) ∧ Below w.heap.size w wr)
  case atStart => exact ⟨⟨l, (unhide HE).symm, Nat.lt_succ_self _⟩, Below.refl _ _⟩
  case round =>
    obtain ⟨⟨l', rfl, hk⟩, hbel⟩ := hrel
    have HB := hide hbel
    have HK := hide hk
    clear hbel hk
    cases l' with
    | nil =>
      unfold chn snt
      go_wp2
      go_ret
      exact ⟨rfl, unhide HB⟩
    | cons s l' =>
      obtain ⟨T, x, hx⟩ := chn_form l' a
      have HX := hide hx
      have hch : chn (s :: l') a = .iface 66 (.agg #[.string s, .iface T x]) := by
        show plc s (chn l' a) = _
        rw [hx]; rfl
      rw [hch]
      clear hch hx
      have hty := fun W => run_eql_iface_types (P := Tryz.prog) 66 160 (.agg #[.string s, .iface T x]) (.pointer (some a)) Tryz.underlying41 (by decide) W
      go_wp2
      go_roundg (l'.length + 1)
      case measure => have := unhide HK; simp at this; omega
      case rel => exact ⟨⟨l', (unhide HX).symm, Nat.lt_succ_self _⟩, belThen (unhide HB) (bel1 _)⟩

set_option maxRecDepth 100000 in
set_option maxHeartbeats 2000000 in
theorem is_top (l : List ByteArray) (a : Addr) (w : World) :
    Calls Tryz.prog 16 #[chn l a, snt a] w fun e w' => e = .returned (.bool true) ∧ Below w.heap.size w w' := by
  have tT := callTypeOf
  have cT := callComparable
  have HI := hide (is_chain l a)
  obtain ⟨T, x, hx⟩ := chn_form l a
  rw [hx] at HI ⊢
  unfold snt at HI ⊢
  clear hx
  go_enter Tryz.func16, Tryz.ntmps16
  go_wp2_with fail
  refine (unhide HI _).mono ?_
  rintro e w1 ⟨rfl, hb⟩
  have HB := hide hb
  clear hb
  go_wp2_with fail
  go_ret
  exact ⟨rfl, unhide HB⟩

set_option maxRecDepth 100000 in
set_option maxHeartbeats 2000000 in
theorem as_chain (l : List ByteArray) (a : Addr) (tv : Value) (vv : Value) (w : World) (hag : ∃ c, vv = .agg #[.pointer (some ⟨6, 53, none⟩), .pointer (some c), .int .u64 150]) :
    Calls Tryz.prog 27 #[chn l a, tv, vv, .iface 105 (.agg #[.pointer (some ⟨6, 51, none⟩)])] w fun e w' => e = .returned (.bool false) ∧ Below w.heap.size w w' := by
  obtain ⟨c, rfl⟩ := hag
  have f7 := typeOfPl
  have f8 := callTypeOf
  have f9 := asgPl
  have f10 := asgE
  have f12 := noAsP
  have f13 := noAsE
  have uP := hasUnwrapP
  have uE := noUnwrapE
  have vE := noUnwrapsE
  generalize hE : chn l a = E
  have HE := hide hE
  clear hE
  go_enter Tryz.func27, Tryz.ntmps27
  go_wp2_with fail
  go_loopg [0] (l.length + 1) (fun k v wr => (∃ l' : List ByteArray, v = chn l' a ∧ l'.length < k) ∧ Below w.heap.size w wr)
  case atStart => exact ⟨⟨l, (unhide HE).symm, Nat.lt_succ_self _⟩, bel1 _⟩
  case round =>
    obtain ⟨⟨l', rfl, hk⟩, hbel⟩ := hrel
    have HB := hide hbel
    have HK := hide hk
    clear hbel hk
    cases l' with
    | nil =>
      unfold chn snt
      go_wp2
      go_ret
      exact ⟨rfl, unhide HB⟩
    | cons s l' =>
      obtain ⟨T, x, hx⟩ := chn_form l' a
      have HX := hide hx
      have hch : chn (s :: l') a = .iface 66 (.agg #[.string s, .iface T x]) := by
        show plc s (chn l' a) = _
        rw [hx]; rfl
      rw [hch]
      clear hch hx
      go_wp2
      go_roundg (l'.length + 1)
      case measure => have := unhide HK; simp at this; omega
      case rel => exact ⟨⟨l', (unhide HX).symm, Nat.lt_succ_self _⟩, belThen (unhide HB) (bel1 _)⟩

set_option maxRecDepth 100000 in
set_option maxHeartbeats 2000000 in
theorem as_top (l : List ByteArray) (a : Addr) (tb : Nat) (w : World) (hg : w.cell? ⟨2, 0, none⟩ = some (.iface 105 (.agg #[.pointer (some ⟨6, 41, none⟩)]))) :
    Calls Tryz.prog 15 #[chn l a, .iface 53 (.pointer (some ⟨tb, 0, none⟩))] w fun e w' => e = .returned (.bool false) ∧ Below w.heap.size w w' := by
  have zg : 2 < w.heap.size := World.block_lt_of_cell? _ _ hg
  have f1 := valueOfP
  have f2 := typeP
  have f3 := kindP
  have f4 := kindV
  have f5 := elemP
  have f6 := implV
  have n8 := fun X => isNilP ⟨w.heap.size, 0, none⟩ ⟨tb, 0, none⟩ ((w.alloc (.cells #[.pointer (some ⟨tb, 0, none⟩)] 53)).alloc X) (by rw [World.cell?_alloc_past _ _ _ (by simp)]; exact World.cell?_alloc_new _ _ _ 0)
  have hg2 : ∀ X Y : Obj, ((w.alloc X).alloc Y).cell? ⟨2, 0, none⟩ = some (.iface 105 (.agg #[.pointer (some ⟨6, 41, none⟩)])) := fun X Y => by
    rw [World.cell?_alloc_past _ _ _ (by simp; omega), World.cell?_alloc_past _ _ _ zg]; exact hg
  have HI := hide (as_chain l a)
  obtain ⟨T, x, hx⟩ := chn_form l a
  rw [hx] at HI ⊢
  clear hx
  go_enter Tryz.func15, Tryz.ntmps15
  go_wp2_with fail
  refine (unhide HI _ _ _ ⟨_, rfl⟩).mono ?_
  rintro e w1 ⟨rfl, hb⟩
  have HB := hide (belThen (belThen (bel1 _) (bel1 _)) hb)
  clear hb
  go_wp2_with fail
  go_ret
  exact ⟨rfl, unhide HB⟩
end Go.Proofs.YtghmmmndakmfoaaGreatDoor
