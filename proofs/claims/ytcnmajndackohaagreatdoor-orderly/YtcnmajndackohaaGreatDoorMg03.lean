import Derived.Test.YtcnmajndackohaaGreatDoorMg01
import Derived.OwnWalk
import Derived.Deep.AppendLies
import Derived.Test.YtcnmajndackohaaGreatDoorMg02
import Derived.Stop.Asserts
import Derived.RowKitTokens
/-
  Blocks that are known whole, and what a call leaves alone.
-/
namespace Go.Proofs.YtcnmajndackohaaGreatDoor
open Go.RowKit

theorem bel_one {w : World} (o : Obj) : Below w.heap.size w (w.alloc o) := (Below.refl _ _).alloc (Nat.le_refl _) _
theorem bel_then {a b c : World} (h : Below a.heap.size a b) (k : Below b.heap.size b c) : Below a.heap.size a c := h.trans (k.mono h.size)
/-- What changes are blocks of S, and new ones. -/
structure Only (S : Nat → Prop) (w w' : World) : Prop where
  os : w'.os = w.os
  tape : w'.tape = w.tape
  output : w'.output = w.output
  size : w.heap.size ≤ w'.heap.size
  block : ∀ k, k < w.heap.size → ¬ S k → w'.heap[k]? = w.heap[k]?
theorem Only.refl (S : Nat → Prop) (w : World) : Only S w w := ⟨rfl, rfl, rfl, Nat.le_refl _, fun _ _ _ => rfl⟩
theorem Only.trans {S T : Nat → Prop} {a b c : World} (h : Only S a b) (k : Only T b c) (hs : ∀ i, i < a.heap.size → T i → S i) : Only S a c :=
  ⟨k.os.trans h.os, k.tape.trans h.tape, k.output.trans h.output, Nat.le_trans h.size k.size, fun i hi hn => (k.block i (Nat.lt_of_lt_of_le hi h.size) (fun ht => hn (hs i hi ht))).trans (h.block i hi hn)⟩
theorem Only.mono {S T : Nat → Prop} {a b : World} (h : Only S a b) (hs : ∀ i, i < a.heap.size → S i → T i) : Only T a b :=
  ⟨h.os, h.tape, h.output, h.size, fun i hi hn => h.block i hi fun k => hn (hs i hi k)⟩
theorem Only.of_below {S : Nat → Prop} {w w' : World} (h : Below w.heap.size w w') : Only S w w' := ⟨h.os, h.tape, h.output, h.size, fun k hk _ => h.block k hk⟩
theorem Only.below {S : Nat → Prop} {w w' : World} (h : Only S w w') {n : Nat} (hn : n ≤ w.heap.size) (hs : ∀ k, k < n → ¬ S k) : Below n w w' :=
  ⟨h.os, h.tape, h.output, h.size, fun k hk => h.block k (Nat.lt_of_lt_of_le hk hn) (hs k hk)⟩
theorem Only.alloc {S : Nat → Prop} {a b : World} (h : Only S a b) (o : Obj) : Only S a (b.alloc o) :=
  h.trans (T := fun _ => False) (Only.of_below ((Below.refl _ _).alloc (Nat.le_refl _) o)) (fun _ _ k => k.elim)
theorem Only.drew {S : Nat → Prop} {a b : World} (h : Only S a b) : Only S a b.drew := ⟨h.os, h.tape, h.output, h.size, h.block⟩
theorem setCell_same {w : World} {g o : Nat} {v : Value} : (w.setCell ⟨g, o, none⟩ v).os = w.os ∧ (w.setCell ⟨g, o, none⟩ v).tape = w.tape ∧ (w.setCell ⟨g, o, none⟩ v).output = w.output ∧ w.heap.size ≤ (w.setCell ⟨g, o, none⟩ v).heap.size ∧ ∀ k, k < w.heap.size → k ≠ g → (w.setCell ⟨g, o, none⟩ v).heap[k]? = w.heap[k]? := by
  refine ⟨?_, ?_, ?_, ?_, ?_⟩
  · exact ((Below.refl 0 w).setCell (p := ⟨g, o, none⟩) (Nat.zero_le _) v).os
  · exact ((Below.refl 0 w).setCell (p := ⟨g, o, none⟩) (Nat.zero_le _) v).tape
  · exact ((Below.refl 0 w).setCell (p := ⟨g, o, none⟩) (Nat.zero_le _) v).output
  · exact ((Below.refl 0 w).setCell (p := ⟨g, o, none⟩) (Nat.zero_le _) v).size
  · intro k _ hne
    exact Below.heap_setCell w ⟨g, o, none⟩ v k hne
theorem Only.setCell {S : Nat → Prop} {a b : World} (h : Only S a b) {g o : Nat} {v : Value} (hg : S g ∨ a.heap.size ≤ g) : Only S a (b.setCell ⟨g, o, none⟩ v) := by
  obtain ⟨s1, s2, s3, s4, s5⟩ := setCell_same (w := b) (g := g) (o := o) (v := v)
  refine ⟨s1.trans h.os, s2.trans h.tape, s3.trans h.output, Nat.le_trans h.size s4, fun i hi hn => (s5 i (Nat.lt_of_lt_of_le hi h.size) ?_).trans (h.block i hi hn)⟩
  rintro rfl
  rcases hg with k | k
  · exact hn k
  · omega
theorem only_set (w : World) (b o : Nat) (v : Value) : Only (fun x => x = b) w (w.setCell ⟨b, o, none⟩ v) := (Only.refl _ _).setCell (.inl rfl)
theorem Only.grown {S : Nat → Prop} {a b c : World} (h : Only S a b) {row : Option Nat} (hg : b.grownBy c row) (hs : ∀ k, row = some k → k < a.heap.size → S k) : Only S a c :=
  ⟨hg.os.trans h.os, hg.tape.trans h.tape, hg.output.trans h.output, Nat.le_trans h.size hg.size, fun i hi hn => (hg.block i (Nat.lt_of_lt_of_le hi h.size) (fun e => hn (hs i e.symm hi))).trans (h.block i hi hn)⟩
/-- Block b is known whole. -/
def Is (w : World) (b : Nat) (t : TypeId) (cs : Array Value) : Prop := w.heap[b]? = some (.cells cs t (0, 0))
section
variable {w : World} {b : Nat} {t : TypeId} {cs : Array Value}
theorem Is.lt (h : Is w b t cs) : b < w.heap.size := lt_of_heap h
theorem Is.cell (h : Is w b t cs) {j : Nat} {u : Value} (hu : cs[j]? = some u) : w.cell? ⟨b, j, none⟩ = some u := by
  have h' : w.heap[b]? = some (.cells cs t (0, 0)) := h
  rw [cell_of_row w b j _ _ _ h']; exact hu
theorem Is.frozen (h : Is w b t cs) (o : Nat) : w.frozen? ⟨b, o, none⟩ = false := by
  have h' : w.heap[b]? = some (.cells cs t (0, 0)) := h
  simp [World.frozen?, h']
theorem Is.drew (h : Is w b t cs) : Is w.drew b t cs := h
theorem Is.set (h : Is w b t cs) (o : Nat) (v : Value) : Is (w.setCell ⟨b, o, none⟩ v) b t (cs.setIfInBounds o v) := by
  have h' : w.heap[b]? = some (.cells cs t (0, 0)) := h
  unfold Is
  rw [setCell_eq_setRow w b o cs t (0, 0) v h']
  exact setRow_heap w b cs _ t (0, 0) h'
theorem Is.far (h : Is w b t cs) {g o : Nat} {v : Value} (hg : b ≠ g) : Is (w.setCell ⟨g, o, none⟩ v) b t cs := (setCell_same.2.2.2.2 b h.lt hg).trans h
theorem Is.only {S : Nat → Prop} {w' : World} (h : Is w b t cs) (k : Only S w w') (hs : ¬ S b) : Is w' b t cs := (k.block b h.lt hs).trans h
theorem Is.below {w' : World} (h : Is w b t cs) (k : Below w.heap.size w w') : Is w' b t cs := (k.block b h.lt).trans h
theorem Is.alloc (h : Is w b t cs) (o : Obj) : Is (w.alloc o) b t cs := h.below ((Below.refl _ _).alloc (Nat.le_refl _) o)
theorem Is.new (w : World) (t : TypeId) (cs : Array Value) : Is (w.alloc (.cells cs t (0, 0))) w.heap.size t cs := heap_alloc_new w _
end
end Go.Proofs.YtcnmajndackohaaGreatDoor
/-
  What violates, Fit and CheckAll do on flows that may be.
-/
namespace Go.Proofs.YtcnmajndackohaaGreatDoor
open Go.RowKit

theorem ret_bool {a b : Bool} (h : a = b) : Ending.returned (.bool a) = .returned (.bool b) := by rw [h]

/-- The flows l lie in block b from offset o on. -/
structure Lies (w : World) (b o : Nat) (l : List Fl) : Prop where
  blk : b < w.heap.size
  c0 : ∀ (k : Nat) (h : k < l.length), w.cell? ⟨b, o + k * 5, none⟩ = some (.int .i64 l[k].s)
  c1 : ∀ (k : Nat) (h : k < l.length), w.cell? ⟨b, o + k * 5 + 1, none⟩ = some (.int .i64 l[k].p)
  c2 : ∀ (k : Nat) (h : k < l.length), w.cell? ⟨b, o + k * 5 + 2, none⟩ = some (.int .i64 l[k].b)
  c3 : ∀ (k : Nat) (h : k < l.length), w.cell? ⟨b, o + k * 5 + 3, none⟩ = some (.int .i64 l[k].r)
  c4 : ∀ (k : Nat) (h : k < l.length), w.cell? ⟨b, o + k * 5 + 4, none⟩ = some (.int .i64 l[k].d)
theorem Lies.below {w w' : World} {b o : Nat} {l : List Fl} (h : Lies w b o l) (hb : Below w.heap.size w w') : Lies w' b o l := by
  obtain ⟨hc, _⟩ := bcell hb
  have := hb.size
  exact ⟨by have := h.blk; omega, fun k g => (hc _ _ h.blk).trans (h.c0 k g), fun k g => (hc _ _ h.blk).trans (h.c1 k g), fun k g => (hc _ _ h.blk).trans (h.c2 k g), fun k g => (hc _ _ h.blk).trans (h.c3 k g), fun k g => (hc _ _ h.blk).trans (h.c4 k g)⟩

set_option maxHeartbeats 2000000 in
theorem violates_any (b o c : Nat) (l : List Fl) (t : Int) (w : World) (hl : l.length ≤ 6) (hw : Lies w b o l) (hm : ∀ f ∈ l, f.may) (t0 : 1 ≤ t) (t1 : t ≤ 10000) :
    Calls Tryz.prog 68 #[.slice (some ⟨b, o, none⟩) l.length c, .int .i64 t] w fun e w' => e = .returned (.bool (vioB l t)) ∧ Below w.heap.size w w' := by
  have HM : Hid (∀ f ∈ l, f.may) := hm
  have HW : Hid (Lies w b o l) := hw
  clear hm hw
  generalize hn : l.length = n at *
  have HN : Hid (l.length = n) := hn
  clear hn
  go_enter Tryz.func68, Tryz.ntmps68
  go_wp2_with fail
  go_loopw [5, 10] (fun s i wr => ∃ k : Nat, k ≤ n ∧ i = .int .i64 k ∧ s = .int .i64 (tot t (l.take k)) ∧ Below w.heap.size w wr) (fun _ i _ => n - (intOf i).toNat)
  case atStart => exact ⟨0, Nat.zero_le _, rfl, rfl, Below.refl _ _⟩
  case round =>
    obtain ⟨k, hk, rfl, rfl, hbel⟩ := hrel
    have hb := tot_bd (l := l.take k) (fun f hf => unhide HM f (List.mem_of_mem_take hf)) t (by omega)
    have hlen : (l.take k).length ≤ 6 := by have := List.length_take_le k l; omega
    by_cases hlt : k < n
    · have hkl : k < l.length := by rw [unhide HN]; exact hlt
      have hmay := unhide HM l[k] (List.getElem_mem hkl)
      have hL := (unhide HW).below hbel
      have q0 := hL.c0 k hkl
      have q1 := hL.c1 k hkl
      have q2 := hL.c2 k hkl
      have q3 := hL.c3 k hkl
      have q4 := hL.c4 k hkl
      have HT := hide (tot_take_succ t l k hkl)
      have hbw := hL.blk
      have heb := e_bd hmay t (by omega)
      have HY := hide hmay
      have hHB := hide hbel
      obtain ⟨_, _, _, _, _, _, _, dd0, dd1⟩ := hmay
      clear hL hbel
      unfold Fl.e at heb
      generalize hf : l[k] = f at *
      clear hf
      generalize tot t (l.take k) = S at *
      go_wp2_with fail
      refine (allowed_any f.s f.p f.b f.r f.d (t - f.d) _ (unhide HY) (by omega)).mono ?_
      rintro e w1 ⟨rfl, hb1⟩
      generalize hE : allow f.s f.p f.b f.r (t - f.d) = E at *
      have HE := hide hE
      clear hE q0 q1 q2 q3 q4
      go_wp2_with fail
      go_roundw
      case rel =>
        refine ⟨k + 1, by omega, by go_num, ?_, ?_⟩
        · rw [unhide HT]; unfold Fl.e; rw [unhide HE]
        · exact (unhide hHB).trans (((Below.refl _ _).alloc (Nat.le_refl _) _).trans (hb1.mono (by simp)) |>.mono (unhide hHB).size)
      case measure => simp [intOf]; omega
    · have hkn : k = n := by omega
      subst hkn
      have hT : tot t (l.take k) = tot t l := by rw [List.take_of_length_le (by rw [unhide HN]; exact Nat.le_refl _)]
      rw [hT] at hb ⊢
      have HV := hide (show vioB l t = (decide (0 < tot t l) && decide (t < tot t l + 7)) from rfl)
      have HBel := hide hbel
      clear hT hbel
      generalize tot t l = S at *
      by_cases g0 : 0 < S
      · by_cases g1 : t < S + 7
        all_goals
          have g2 : S + 8 - 1 = S + 7 := by omega
          go_wp2_with fail
          go_ret
          exact ⟨ret_bool (by rw [unhide HV]; simp; omega), unhide HBel⟩
      · have g2 : decide (0 < S) = false := by simpa using g0
        go_wp2_with fail
        go_ret
        exact ⟨ret_bool (by rw [unhide HV, g2]; rfl), unhide HBel⟩

set_option maxHeartbeats 2000000 in
theorem violates_nil (a : Option Addr) (c : Nat) (t : Int) (w : World) :
    Calls Tryz.prog 68 #[.slice a 0 c, .int .i64 t] w fun e w' => e = .returned (.bool false) ∧ w' = w := by
  go_enter Tryz.func68, Tryz.ntmps68
  go_wp2_with fail
  go_rounds 1
  go_ret
  exact ⟨rfl, rfl⟩
end Go.Proofs.YtcnmajndackohaaGreatDoor
/-
  errors.Is and errors.As at what this program hands them: none, and a violation behind one wrap.
-/
namespace Go.Proofs.YtcnmajndackohaaGreatDoor
open Go.RowKit Go.Extern.Stop Go.Stop Go.Extern

/-- An error wrapped with where it was. -/
def plc (s : ByteArray) (e : Value) : Value := .iface 134 (.agg #[.string s, e])
/-- A violation. -/
def vio (t : Int) : Value := .iface 95 (.agg #[.int .i64 t])

theorem callTypeOf (v : Value) (w : World) : (callFunc 73 #[.iface 242 v]).run Tryz.prog w = .ok (.value (.iface 167 (.agg #[.pointer (some ⟨10, 242, none⟩)]))) w := by kernel_rfl
theorem callComparable (w : World) : (callFunc 189 #[.agg #[.pointer (some ⟨10, 242, none⟩)]]).run Tryz.prog w = .ok (.value (.bool true)) w := by kernel_rfl
theorem isComp : (Tryz.prog.info? 242).map (·.comparable) = some true := by kernel_rfl
theorem isSize : (Tryz.prog.info? 263).map (·.size) = some 1 := by kernel_rfl
theorem noIsE (v : Value) (xT : TypeId) (w : World) : (Instr.typeAssert (.iface 242 v) xT 179 true).run Tryz.prog w = .ok (.tuple #[.nilIface, .bool false]) w := run_typeAssert_lacksB Tryz.underlying179 (by kernel_rfl) (by kernel_rfl) v xT w
theorem noUnwrapE (v : Value) (xT : TypeId) (w : World) : (Instr.typeAssert (.iface 242 v) xT 174 true).run Tryz.prog w = .ok (.tuple #[.nilIface, .bool false]) w := run_typeAssert_lacksB Tryz.underlying174 (by kernel_rfl) (by kernel_rfl) v xT w
theorem noUnwrapsE (v : Value) (xT : TypeId) (w : World) : (Instr.typeAssert (.iface 242 v) xT 176 true).run Tryz.prog w = .ok (.tuple #[.nilIface, .bool false]) w := run_typeAssert_lacksB Tryz.underlying176 (by kernel_rfl) (by kernel_rfl) v xT w
theorem noIsP (v : Value) (xT : TypeId) (w : World) : (Instr.typeAssert (.iface 134 v) xT 179 true).run Tryz.prog w = .ok (.tuple #[.nilIface, .bool false]) w := run_typeAssert_lacksB Tryz.underlying179 (by kernel_rfl) (by kernel_rfl) v xT w
theorem hasUnwrapP (v : Value) (xT : TypeId) (w : World) : (Instr.typeAssert (.iface 134 v) xT 174 true).run Tryz.prog w = .ok (.tuple #[.iface 134 v, .bool true]) w := run_typeAssert_hasB Tryz.underlying174 (by kernel_rfl) v xT w
theorem noIsV (v : Value) (xT : TypeId) (w : World) : (Instr.typeAssert (.iface 95 v) xT 179 true).run Tryz.prog w = .ok (.tuple #[.nilIface, .bool false]) w := run_typeAssert_lacksB Tryz.underlying179 (by kernel_rfl) (by kernel_rfl) v xT w
theorem hasUnwrapV (v : Value) (xT : TypeId) (w : World) : (Instr.typeAssert (.iface 95 v) xT 174 true).run Tryz.prog w = .ok (.tuple #[.iface 95 v, .bool true]) w := run_typeAssert_hasB Tryz.underlying174 (by kernel_rfl) v xT w

set_option maxRecDepth 100000 in
set_option maxHeartbeats 2000000 in
theorem is_late (s : ByteArray) (t : Int) (a1 : Addr) (w : World) (g1 : w.cell? ⟨2, 0, none⟩ = some (.iface 242 (.pointer (some a1)))) :
    Calls Tryz.prog 49 #[plc s (vio t), .iface 242 (.pointer (some a1))] w fun e w' => e = .returned (.bool true) ∧ Below w.heap.size w w' := by
  obtain ⟨i, hi, hcmp⟩ := Option.map_eq_some_iff.1 isComp
  obtain ⟨j, hj, hjs⟩ := Option.map_eq_some_iff.1 isSize
  have z1 : 2 < w.heap.size := World.block_lt_of_cell? _ _ g1
  have tT := callTypeOf
  have cT := callComparable
  have nP := noIsP
  have uP := hasUnwrapP
  have nV := noIsV
  have uV := hasUnwrapV
  have hty1 := fun W => run_eql_iface_types (P := Tryz.prog) 134 242 (.agg #[.string s, vio t]) (.pointer (some a1)) Tryz.underlying66 (by decide) W
  have hty2 := fun W => run_eql_iface_types (P := Tryz.prog) 95 242 (.agg #[.int .i64 t]) (.pointer (some a1)) Tryz.underlying66 (by decide) W
  have heq := fun W => run_eql_iface_ptr_same (P := Tryz.prog) W a1 Tryz.underlying66 Tryz.underlying242 hi hcmp hj
  have g1' : ∀ X Y : Obj, ((w.alloc X).alloc Y).cell? ⟨2, 0, none⟩ = some (.iface 242 (.pointer (some a1))) := fun X Y => by
    rw [World.cell?_alloc_past _ _ _ (by simp; omega), World.cell?_alloc_past _ _ _ z1]; exact g1
  unfold vio at hty1
  unfold plc vio
  go_enter Tryz.func49, Tryz.ntmps49
  go_wp2
  refine wp_loop_rounds 3 ?_
  rw [rounds_succ]
  go_wp2
  rw [rounds_succ]
  go_wp2
  rw [rounds_succ]
  go_wp2
  go_ret
  refine ⟨rfl, ?_⟩
  go_grown

set_option maxRecDepth 100000 in
set_option maxHeartbeats 2000000 in
theorem is_notarg (s : ByteArray) (t : Int) (a0 a1 : Addr) (c0 c1 : Array Value) (t0 t1 : TypeId) (w : World) (g1 : w.cell? ⟨2, 0, none⟩ = some (.iface 242 (.pointer (some a1)))) (hne : a1 ≠ a0)
    (hb0 : w.heap[a0.block]? = some (.cells c0 t0 (0, 0))) (hb1 : w.heap[a1.block]? = some (.cells c1 t1 (0, 0))) :
    Calls Tryz.prog 49 #[plc s (vio t), .iface 242 (.pointer (some a0))] w fun e w' => e = .returned (.bool false) ∧ Below w.heap.size w w' := by
  obtain ⟨i, hi, hcmp⟩ := Option.map_eq_some_iff.1 isComp
  obtain ⟨j, hj, hjs⟩ := Option.map_eq_some_iff.1 isSize
  have z1 : 2 < w.heap.size := World.block_lt_of_cell? _ _ g1
  have l0 : a0.block < w.heap.size := lt_of_heap hb0
  have l1 : a1.block < w.heap.size := lt_of_heap hb1
  have tT := callTypeOf
  have cT := callComparable
  have nP := noIsP
  have uP := hasUnwrapP
  have nV := noIsV
  have uV := hasUnwrapV
  have nE := noIsE
  have uE := noUnwrapE
  have vE := noUnwrapsE
  have hty1 := fun W => run_eql_iface_types (P := Tryz.prog) 134 242 (.agg #[.string s, vio t]) (.pointer (some a0)) Tryz.underlying66 (by decide) W
  have hty2 := fun W => run_eql_iface_types (P := Tryz.prog) 95 242 (.agg #[.int .i64 t]) (.pointer (some a0)) Tryz.underlying66 (by decide) W
  have heq := fun X Y => run_eql_iface_ptr_other (P := Tryz.prog) ((w.alloc X).alloc Y) Tryz.underlying66 Tryz.underlying242 hi hcmp hj (by rw [hjs]; decide) hne
    ((Below.heap_alloc _ Y _ (by simp; omega)).trans ((Below.heap_alloc w X _ l1).trans hb1)) ((Below.heap_alloc _ Y _ (by simp; omega)).trans ((Below.heap_alloc w X _ l0).trans hb0))
  have g1' : ∀ X Y : Obj, ((w.alloc X).alloc Y).cell? ⟨2, 0, none⟩ = some (.iface 242 (.pointer (some a1))) := fun X Y => by
    rw [World.cell?_alloc_past _ _ _ (by simp; omega), World.cell?_alloc_past _ _ _ z1]; exact g1
  unfold vio at hty1
  unfold plc vio
  clear hb0 hb1
  go_enter Tryz.func49, Tryz.ntmps49
  go_wp2
  refine wp_loop_rounds 3 ?_
  rw [rounds_succ]
  go_wp2
  rw [rounds_succ]
  go_wp2
  rw [rounds_succ]
  go_wp2
  go_ret
  refine ⟨rfl, ?_⟩
  go_grown
end Go.Proofs.YtcnmajndackohaaGreatDoor
