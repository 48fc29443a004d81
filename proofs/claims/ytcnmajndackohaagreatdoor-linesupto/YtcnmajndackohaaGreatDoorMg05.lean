import Derived.Test.YtcnmajndackohaaGreatDoorMg01
import Derived.Test.YtcnmajndackohaaGreatDoorMg03
import Derived.OwnWalk
import Derived.Deep.AppendLies
import Derived.Test.YtcnmajndackohaaGreatDoorMg04
/-
  Plain: lists of flows, what of all of them may come, the least violation.
-/
namespace Go.Proofs.YtcnmajndackohaaGreatDoor
/-- A flow's numbers. -/
structure Fl where
  s : Int
  p : Int
  b : Int
  r : Int
  d : Int
def Fl.may (f : Fl) : Prop := May f.s f.p f.b f.r f.d
def Fl.e (f : Fl) (t : Int) : Int := allow f.s f.p f.b f.r (t - f.d)
/-- What of all flows may come by the tick t. -/
def tot (t : Int) : List Fl → Int
  | [] => 0
  | f :: l => f.e t + tot t l
theorem tot_append (t : Int) (l m : List Fl) : tot t (l ++ m) = tot t l + tot t m := by
  induction l with
  | nil => simp [tot]
  | cons f l ih => simp only [List.cons_append, tot, ih]; omega
theorem tot_take_succ (t : Int) (l : List Fl) (k : Nat) (h : k < l.length) : tot t (l.take (k + 1)) = tot t (l.take k) + (l[k]'h).e t := by
  rw [List.take_succ_eq_append_getElem h, tot_append]; simp [tot]
theorem e_bd {f : Fl} (h : f.may) (t : Int) (t1 : t ≤ 100000) : 0 ≤ f.e t ∧ f.e t ≤ 101000 := by
  unfold Fl.e
  by_cases g : t - f.d < 0
  · rw [allow_neg _ _ _ _ _ g]; omega
  · have := allow_rate h (x := t - f.d) (by omega)
    obtain ⟨s0, s1, b0, b1, r0, p0, p1, d0, d1⟩ := h
    have m2 : f.p * (t - f.d) ≤ 1200000 := by
      have := Int.mul_le_mul p1 (show t - f.d ≤ 100000 by omega) (by omega) (by decide); omega
    omega
theorem tot_bd {l : List Fl} (h : ∀ f ∈ l, f.may) (t : Int) (t1 : t ≤ 100000) : 0 ≤ tot t l ∧ tot t l ≤ 101000 * l.length := by
  induction l with
  | nil => simp [tot]
  | cons f l ih =>
    have a := ih fun g hg => h g (List.mem_cons_of_mem _ hg)
    have b := e_bd (h f (List.mem_cons_self ..)) t t1
    simp only [tot, List.length_cons]; omega
/-- Is the tick t a violation? -/
def vioB (l : List Fl) (t : Int) : Bool := decide (0 < tot t l) && decide (t < tot t l + 7)
/-- The least violation among n ticks from t on; 0: there is none. -/
def seek (l : List Fl) : Nat → Int → Int
  | 0, _ => 0
  | n + 1, t => if vioB l t = true then t else seek l n (t + 1)
def viol (l : List Fl) : Int := seek l 1300 1
theorem seek_spec (l : List Fl) (n : Nat) : ∀ t : Int, 0 < t → (seek l n t = 0 ∧ ∀ u, t ≤ u → u < t + n → vioB l u = false) ∨ (t ≤ seek l n t ∧ seek l n t < t + n ∧ vioB l (seek l n t) = true ∧ ∀ u, t ≤ u → u < seek l n t → vioB l u = false) := by
  induction n with
  | zero => intro t _; left; exact ⟨rfl, fun u h1 h2 => by omega⟩
  | succ n ih =>
    intro t ht
    by_cases hv : vioB l t = true
    · right
      have : seek l (n + 1) t = t := by simp [seek, hv]
      rw [this]; exact ⟨by omega, by omega, hv, fun u h1 h2 => by omega⟩
    · have e : seek l (n + 1) t = seek l n (t + 1) := by simp [seek, hv]
      rw [e]
      have hv' : vioB l t = false := by simpa using hv
      rcases ih (t + 1) (by omega) with ⟨h1, h2⟩ | ⟨h1, h2, h3, h4⟩
      · left; exact ⟨h1, fun u a b => by
          by_cases e : u = t
          · rw [e]; exact hv'
          · exact h2 u (by omega) (by omega)⟩
      · right; exact ⟨by omega, by omega, h3, fun u a b => by
          by_cases e : u = t
          · rw [e]; exact hv'
          · exact h4 u (by omega) b⟩
theorem viol_spec (l : List Fl) : (viol l = 0 ∧ ∀ u, 1 ≤ u → u ≤ 1300 → vioB l u = false) ∨ (1 ≤ viol l ∧ viol l ≤ 1300 ∧ vioB l (viol l) = true ∧ ∀ u, 1 ≤ u → u < viol l → vioB l u = false) := by
  rcases seek_spec l 1300 1 (by decide) with ⟨h1, h2⟩ | ⟨h1, h2, h3, h4⟩
  · left; exact ⟨h1, fun u a b => h2 u a (by omega)⟩
  · right; exact ⟨h1, by unfold viol; omega, h3, h4⟩
theorem seek_step_no {l : List Fl} {n : Nat} {t : Int} (h : vioB l t = false) : seek l (n + 1) t = seek l n (t + 1) := by simp [seek, h]
theorem seek_step_yes {l : List Fl} {n : Nat} {t : Int} (h : vioB l t = true) : seek l (n + 1) t = t := by simp [seek, h]
/-- One that may be, out of raw numbers. -/
def mk (f : Fl) : Fl := ⟨2 + pk f.s 7, pk f.r 13 + pk f.p (13 - pk f.r 13), 2 + pk f.s 7 + pk f.b (31 - (2 + pk f.s 7)), pk f.r 13, 2 + pk f.s 7 + pk f.d (101 - (2 + pk f.s 7))⟩
theorem viol_range (l : List Fl) : 0 ≤ viol l ∧ viol l ≤ 1300 := by
  rcases viol_spec l with ⟨h, _⟩ | ⟨h1, h2, _⟩ <;> omega
end Go.Proofs.YtcnmajndackohaaGreatDoor
/-
  Blocks that are known whole, and what a call leaves alone.
-/
namespace Go.Proofs.YtcnmajndackohaaGreatDoor
open Go.RowKit
theorem bel_one {w : World} (o : Obj) : Below w.heap.size w (w.alloc o) := (Below.refl _ _).alloc (Nat.le_refl _) _
theorem bel_then {a b c : World} (h : Below a.heap.size a b) (k : Below b.heap.size b c) : Below a.heap.size a c := h.trans (k.mono h.size)
/-- What changes are blocks of S, and new ones. -/
structure Only (S : Nat → Prop) (w w' : World) : Prop where
  os : w'.os = w.os
  tape : w'.tape = w.tape
  output : w'.output = w.output
  size : w.heap.size ≤ w'.heap.size
  block : ∀ k, k < w.heap.size → ¬ S k → w'.heap[k]? = w.heap[k]?
theorem Only.refl (S : Nat → Prop) (w : World) : Only S w w := ⟨rfl, rfl, rfl, Nat.le_refl _, fun _ _ _ => rfl⟩
theorem Only.trans {S T : Nat → Prop} {a b c : World} (h : Only S a b) (k : Only T b c) (hs : ∀ i, i < a.heap.size → T i → S i) : Only S a c :=
  ⟨k.os.trans h.os, k.tape.trans h.tape, k.output.trans h.output, Nat.le_trans h.size k.size, fun i hi hn => (k.block i (Nat.lt_of_lt_of_le hi h.size) (fun ht => hn (hs i hi ht))).trans (h.block i hi hn)⟩
theorem Only.mono {S T : Nat → Prop} {a b : World} (h : Only S a b) (hs : ∀ i, i < a.heap.size → S i → T i) : Only T a b :=
  ⟨h.os, h.tape, h.output, h.size, fun i hi hn => h.block i hi fun k => hn (hs i hi k)⟩
theorem Only.of_below {S : Nat → Prop} {w w' : World} (h : Below w.heap.size w w') : Only S w w' := ⟨h.os, h.tape, h.output, h.size, fun k hk _ => h.block k hk⟩
theorem Only.below {S : Nat → Prop} {w w' : World} (h : Only S w w') {n : Nat} (hn : n ≤ w.heap.size) (hs : ∀ k, k < n → ¬ S k) : Below n w w' :=
  ⟨h.os, h.tape, h.output, h.size, fun k hk => h.block k (Nat.lt_of_lt_of_le hk hn) (hs k hk)⟩
theorem Only.alloc {S : Nat → Prop} {a b : World} (h : Only S a b) (o : Obj) : Only S a (b.alloc o) :=
  h.trans (T := fun _ => False) (Only.of_below ((Below.refl _ _).alloc (Nat.le_refl _) o)) (fun _ _ k => k.elim)
theorem Only.drew {S : Nat → Prop} {a b : World} (h : Only S a b) : Only S a b.drew := ⟨h.os, h.tape, h.output, h.size, h.block⟩
theorem setCell_same {w : World} {g o : Nat} {v : Value} : (w.setCell ⟨g, o, none⟩ v).os = w.os ∧ (w.setCell ⟨g, o, none⟩ v).tape = w.tape ∧ (w.setCell ⟨g, o, none⟩ v).output = w.output ∧ w.heap.size ≤ (w.setCell ⟨g, o, none⟩ v).heap.size ∧ ∀ k, k < w.heap.size → k ≠ g → (w.setCell ⟨g, o, none⟩ v).heap[k]? = w.heap[k]? := by
  refine ⟨?_, ?_, ?_, ?_, ?_⟩
  · exact ((Below.refl 0 w).setCell (p := ⟨g, o, none⟩) (Nat.zero_le _) v).os
  · exact ((Below.refl 0 w).setCell (p := ⟨g, o, none⟩) (Nat.zero_le _) v).tape
  · exact ((Below.refl 0 w).setCell (p := ⟨g, o, none⟩) (Nat.zero_le _) v).output
  · exact ((Below.refl 0 w).setCell (p := ⟨g, o, none⟩) (Nat.zero_le _) v).size
  · intro k _ hne
    exact Below.heap_setCell w ⟨g, o, none⟩ v k hne
theorem Only.setCell {S : Nat → Prop} {a b : World} (h : Only S a b) {g o : Nat} {v : Value} (hg : S g ∨ a.heap.size ≤ g) : Only S a (b.setCell ⟨g, o, none⟩ v) := by
  obtain ⟨s1, s2, s3, s4, s5⟩ := setCell_same (w := b) (g := g) (o := o) (v := v)
  refine ⟨s1.trans h.os, s2.trans h.tape, s3.trans h.output, Nat.le_trans h.size s4, fun i hi hn => (s5 i (Nat.lt_of_lt_of_le hi h.size) ?_).trans (h.block i hi hn)⟩
  rintro rfl
  rcases hg with k | k
  · exact hn k
  · omega
theorem only_set (w : World) (b o : Nat) (v : Value) : Only (fun x => x = b) w (w.setCell ⟨b, o, none⟩ v) := (Only.refl _ _).setCell (.inl rfl)
theorem Only.grown {S : Nat → Prop} {a b c : World} (h : Only S a b) {row : Option Nat} (hg : b.grownBy c row) (hs : ∀ k, row = some k → k < a.heap.size → S k) : Only S a c :=
  ⟨hg.os.trans h.os, hg.tape.trans h.tape, hg.output.trans h.output, Nat.le_trans h.size hg.size, fun i hi hn => (hg.block i (Nat.lt_of_lt_of_le hi h.size) (fun e => hn (hs i e.symm hi))).trans (h.block i hi hn)⟩
/-- Block b is known whole. -/
def Is (w : World) (b : Nat) (t : TypeId) (cs : Array Value) : Prop := w.heap[b]? = some (.cells cs t (0, 0))
section
variable {w : World} {b : Nat} {t : TypeId} {cs : Array Value}
theorem Is.lt (h : Is w b t cs) : b < w.heap.size := lt_of_heap h
theorem Is.cell (h : Is w b t cs) {j : Nat} {u : Value} (hu : cs[j]? = some u) : w.cell? ⟨b, j, none⟩ = some u := by
  have h' : w.heap[b]? = some (.cells cs t (0, 0)) := h
  rw [cell_of_row w b j _ _ _ h']; exact hu
theorem Is.frozen (h : Is w b t cs) (o : Nat) : w.frozen? ⟨b, o, none⟩ = false := by
  have h' : w.heap[b]? = some (.cells cs t (0, 0)) := h
  simp [World.frozen?, h']
theorem Is.drew (h : Is w b t cs) : Is w.drew b t cs := h
theorem Is.set (h : Is w b t cs) (o : Nat) (v : Value) : Is (w.setCell ⟨b, o, none⟩ v) b t (cs.setIfInBounds o v) := by
  have h' : w.heap[b]? = some (.cells cs t (0, 0)) := h
  unfold Is
  rw [setCell_eq_setRow w b o cs t (0, 0) v h']
  exact setRow_heap w b cs _ t (0, 0) h'
theorem Is.far (h : Is w b t cs) {g o : Nat} {v : Value} (hg : b ≠ g) : Is (w.setCell ⟨g, o, none⟩ v) b t cs := (setCell_same.2.2.2.2 b h.lt hg).trans h
theorem Is.only {S : Nat → Prop} {w' : World} (h : Is w b t cs) (k : Only S w w') (hs : ¬ S b) : Is w' b t cs := (k.block b h.lt hs).trans h
theorem Is.below {w' : World} (h : Is w b t cs) (k : Below w.heap.size w w') : Is w' b t cs := (k.block b h.lt).trans h
theorem Is.alloc (h : Is w b t cs) (o : Obj) : Is (w.alloc o) b t cs := h.below ((Below.refl _ _).alloc (Nat.le_refl _) o)
theorem Is.new (w : World) (t : TypeId) (cs : Array Value) : Is (w.alloc (.cells cs t (0, 0))) w.heap.size t cs := heap_alloc_new w _
end
end Go.Proofs.YtcnmajndackohaaGreatDoor
/-
  What violates, Fit and CheckAll do on flows that may be.
-/
namespace Go.Proofs.YtcnmajndackohaaGreatDoor
open Go.RowKit
theorem ret_bool {a b : Bool} (h : a = b) : Ending.returned (.bool a) = .returned (.bool b) := by rw [h]
/-- The flows l lie in block b from offset o on. -/
structure Lies (w : World) (b o : Nat) (l : List Fl) : Prop where
  blk : b < w.heap.size
  c0 : ∀ (k : Nat) (h : k < l.length), w.cell? ⟨b, o + k * 5, none⟩ = some (.int .i64 l[k].s)
  c1 : ∀ (k : Nat) (h : k < l.length), w.cell? ⟨b, o + k * 5 + 1, none⟩ = some (.int .i64 l[k].p)
  c2 : ∀ (k : Nat) (h : k < l.length), w.cell? ⟨b, o + k * 5 + 2, none⟩ = some (.int .i64 l[k].b)
  c3 : ∀ (k : Nat) (h : k < l.length), w.cell? ⟨b, o + k * 5 + 3, none⟩ = some (.int .i64 l[k].r)
  c4 : ∀ (k : Nat) (h : k < l.length), w.cell? ⟨b, o + k * 5 + 4, none⟩ = some (.int .i64 l[k].d)
theorem Lies.below {w w' : World} {b o : Nat} {l : List Fl} (h : Lies w b o l) (hb : Below w.heap.size w w') : Lies w' b o l := by
  obtain ⟨hc, _⟩ := bcell hb
  have := hb.size
  exact ⟨by have := h.blk; omega, fun k g => (hc _ _ h.blk).trans (h.c0 k g), fun k g => (hc _ _ h.blk).trans (h.c1 k g), fun k g => (hc _ _ h.blk).trans (h.c2 k g), fun k g => (hc _ _ h.blk).trans (h.c3 k g), fun k g => (hc _ _ h.blk).trans (h.c4 k g)⟩
set_option maxHeartbeats 2000000 in
theorem violates_any (b o c : Nat) (l : List Fl) (t : Int) (w : World) (hl : l.length ≤ 6) (hw : Lies w b o l) (hm : ∀ f ∈ l, f.may) (t0 : 1 ≤ t) (t1 : t ≤ 10000) :
    Calls Tryz.prog 68 #[.slice (some ⟨b, o, none⟩) l.length c, .int .i64 t] w fun e w' => e = .returned (.bool (vioB l t)) ∧ Below w.heap.size w w' := by
  have HM : Hid (∀ f ∈ l, f.may) := hm
  have HW : Hid (Lies w b o l) := hw
  clear hm hw
  generalize hn : l.length = n at *
  have HN : Hid (l.length = n) := hn
  clear hn
  go_enter Tryz.func68, Tryz.ntmps68
  go_wp2_with fail
  go_loopw [5, 10] (fun s i wr => ∃ k : Nat, k ≤ n ∧ i = .int .i64 k ∧ s = .int .i64 (tot t (l.take k)) ∧ Below w.heap.size w wr) (fun _ i _ => n - (intOf i).toNat)
  case atStart => exact ⟨0, Nat.zero_le _, rfl, rfl, Below.refl _ _⟩
  case round =>
    obtain ⟨k, hk, rfl, rfl, hbel⟩ := hrel
    have hb := tot_bd (l := l.take k) (fun f hf => unhide HM f (List.mem_of_mem_take hf)) t (by omega)
    have hlen : (l.take k).length ≤ 6 := by have := List.length_take_le k l; omega
    by_cases hlt : k < n
    · have hkl : k < l.length := by rw [unhide HN]; exact hlt
      have hmay := unhide HM l[k] (List.getElem_mem hkl)
      have hL := (unhide HW).below hbel
      have q0 := hL.c0 k hkl
      have q1 := hL.c1 k hkl
      have q2 := hL.c2 k hkl
      have q3 := hL.c3 k hkl
      have q4 := hL.c4 k hkl
      have HT := hide (tot_take_succ t l k hkl)
      have hbw := hL.blk
      have heb := e_bd hmay t (by omega)
      have HY := hide hmay
      have hHB := hide hbel
      obtain ⟨_, _, _, _, _, _, _, dd0, dd1⟩ := hmay
      clear hL hbel
      unfold Fl.e at heb
      generalize hf : l[k] = f at *
      clear hf
      generalize tot t (l.take k) = S at *
      go_wp2_with fail
      refine (allowed_any f.s f.p f.b f.r f.d (t - f.d) _ (unhide HY) (by omega)).mono ?_
      rintro e w1 ⟨rfl, hb1⟩
      generalize hE : allow f.s f.p f.b f.r (t - f.d) = E at *
      have HE := hide hE
      clear hE q0 q1 q2 q3 q4
      go_wp2_with fail
      go_roundw
      case rel =>
        refine ⟨k + 1, by omega, by go_num, ?_, ?_⟩
        · rw [unhide HT]; unfold Fl.e; rw [unhide HE]
        · exact (unhide hHB).trans (((Below.refl _ _).alloc (Nat.le_refl _) _).trans (hb1.mono (by simp)) |>.mono (unhide hHB).size)
      case measure => simp [intOf]; omega
    · have hkn : k = n := by omega
      subst hkn
      have hT : tot t (l.take k) = tot t l := by rw [List.take_of_length_le (by rw [unhide HN]; exact Nat.le_refl _)]
      rw [hT] at hb ⊢
      have HV := hide (show vioB l t = (decide (0 < tot t l) && decide (t < tot t l + 7)) from rfl)
      have HBel := hide hbel
      clear hT hbel
      generalize tot t l = S at *
      by_cases g0 : 0 < S
      · by_cases g1 : t < S + 7
        all_goals
          have g2 : S + 8 - 1 = S + 7 := by omega
          go_wp2_with fail
          go_ret
          exact ⟨ret_bool (by rw [unhide HV]; simp; omega), unhide HBel⟩
      · have g2 : decide (0 < S) = false := by simpa using g0
        go_wp2_with fail
        go_ret
        exact ⟨ret_bool (by rw [unhide HV, g2]; rfl), unhide HBel⟩
set_option maxHeartbeats 2000000 in
theorem violates_nil (a : Option Addr) (c : Nat) (t : Int) (w : World) :
    Calls Tryz.prog 68 #[.slice a 0 c, .int .i64 t] w fun e w' => e = .returned (.bool false) ∧ w' = w := by
  go_enter Tryz.func68, Tryz.ntmps68
  go_wp2_with fail
  go_rounds 1
  go_ret
  exact ⟨rfl, rfl⟩
end Go.Proofs.YtcnmajndackohaaGreatDoor
/-
  What Fit and CheckAll do on flows that may be: the least violation, or none.
-/
namespace Go.Proofs.YtcnmajndackohaaGreatDoor
open Go.RowKit
/-- The value v is a list of the flows l. -/
def Fls (w : World) (v : Value) (l : List Fl) : Prop := (l = [] ∧ ∃ a c, v = .slice a 0 c) ∨ ∃ b o c, v = .slice (some ⟨b, o, none⟩) l.length c ∧ Lies w b o l
theorem Fls.below {w w' : World} {v : Value} {l : List Fl} (h : Fls w v l) (hb : Below w.heap.size w w') : Fls w' v l := by
  rcases h with h | ⟨b, o, c, e, h⟩
  · exact .inl h
  · exact .inr ⟨b, o, c, e, h.below hb⟩
theorem violates_F (v : Value) (l : List Fl) (t : Int) (w : World) (hw : Fls w v l) (hl : l.length ≤ 6) (hm : ∀ f ∈ l, f.may) (t0 : 1 ≤ t) (t1 : t ≤ 10000) :
    Calls Tryz.prog 68 #[v, .int .i64 t] w fun e w' => e = .returned (.bool (vioB l t)) ∧ Below w.heap.size w w' := by
  rcases hw with ⟨rfl, a, c, rfl⟩ | ⟨b, o, c, rfl, h⟩
  · refine (violates_nil a c t w).mono ?_
    rintro e w' ⟨rfl, rfl⟩
    exact ⟨by simp [vioB, tot], Below.refl _ _⟩
  · exact violates_any b o c l t w hl h hm t0 t1
/-- What Fit answers. -/
def fitV (l : List Fl) : Value := if viol l = 0 then .nilIface else vio (viol l)
theorem fitV_none {l : List Fl} (h : viol l = 0) : fitV l = .nilIface := by unfold fitV; rw [if_pos h]
theorem fitV_some {l : List Fl} (h : ¬ viol l = 0) : fitV l = vio (viol l) := by unfold fitV; rw [if_neg h]
theorem ret_val {a b : Value} (h : a = b) : Ending.returned a = .returned b := by rw [h]
set_option maxRecDepth 100000 in
set_option maxHeartbeats 2000000 in
theorem fit_any (v : Value) (l : List Fl) (w : World) (hw : Fls w v l) (hl : l.length ≤ 6) (hm : ∀ f ∈ l, f.may) :
    Calls Tryz.prog 47 #[v] w fun e w' => e = .returned (fitV l) ∧ Below w.heap.size w w' := by
  have HM := hide hm
  have HW := hide hw
  have HL := hide hl
  clear hm hw hl
  go_enter Tryz.func47, Tryz.ntmps47
  go_wp2_with fail
  go_loopw [3] (fun i wr => ∃ k m : Nat, k + m = 1300 ∧ i = .int .i64 ((k : Int) + 1) ∧ viol l = seek l m ((k : Int) + 1) ∧ Below w.heap.size w wr) (fun i _ => 1301 - (intOf i).toNat)
  case atStart => exact ⟨0, 1300, rfl, rfl, rfl, Below.refl _ _⟩
  case round =>
    obtain ⟨k, m, hkm, rfl, hs, hbel⟩ := hrel
    have HK := hide hkm
    have HS := hide hs
    have HBel := hide hbel
    have hk : (k : Int) ≤ 1300 := by omega
    clear hs hbel
    cases m with
    | succ m =>
      have hlt : (k : Int) < 1300 := by omega
      clear hkm
      go_wp2_with fail
      refine (violates_F v l ((k : Int) + 1) _ ((unhide HW).below (unhide HBel)) (unhide HL) (unhide HM) (by omega) (by omega)).mono ?_
      rintro e w1 ⟨rfl, hb1⟩
      have HB1 := hide hb1
      clear hb1
      cases hv : vioB l ((k : Int) + 1)
      · have HV := hide hv
        clear hv
        go_wp2_with fail
        go_roundw
        case rel =>
          refine ⟨k + 1, m, by have := unhide HK; omega, by go_num, ?_, (unhide HBel).trans ((unhide HB1).mono (unhide HBel).size)⟩
          rw [unhide HS, seek_step_no (unhide HV)]
          rfl
        case measure => simp [intOf]; omega
      · have HV := hide hv
        clear hv
        go_wp2_with fail
        go_ret
        refine ⟨ret_val ?_, (unhide HBel).trans ((unhide HB1).mono (unhide HBel).size)⟩
        have e1 : viol l = (k : Int) + 1 := by rw [unhide HS, seek_step_yes (unhide HV)]
        rw [fitV_some (by omega), e1]
        rfl
    | zero =>
      have hlt : (k : Int) = 1300 := by omega
      have HE := hide hlt
      have hge : ¬ (k : Int) + 1 ≤ 1300 := by omega
      clear hkm hlt
      go_wp2_with fail
      go_ret
      refine ⟨ret_val ?_, unhide HBel⟩
      have e1 : viol l = 0 := by rw [unhide HS]; rfl
      rw [fitV_none e1]
      rfl
set_option maxHeartbeats 2000000 in
theorem checkAll_some (b o c : Nat) (l : List Fl) (w : World) (hl : l.length ≤ 6) (hw : Lies w b o l) (hm : ∀ f ∈ l, f.may) :
    Calls Tryz.prog 45 #[.slice (some ⟨b, o, none⟩) l.length c] w fun e w' => e = .returned .nilIface ∧ Below w.heap.size w w' := by
  have HM : Hid (∀ f ∈ l, f.may) := hm
  have HW : Hid (Lies w b o l) := hw
  clear hm hw
  generalize hn : l.length = n at *
  have HN : Hid (l.length = n) := hn
  clear hn
  go_enter Tryz.func45, Tryz.ntmps45
  go_wp2_with fail
  go_loopw [17] (fun i wr => ∃ k : Nat, k ≤ n ∧ i = .int .i64 k ∧ Below w.heap.size w wr) (fun i _ => n - (intOf i).toNat)
  case atStart => exact ⟨0, Nat.zero_le _, rfl, Below.refl _ _⟩
  case round =>
    obtain ⟨k, hk, rfl, hbel⟩ := hrel
    by_cases hlt : k < n
    · have hkl : k < l.length := by rw [unhide HN]; exact hlt
      have hmay := unhide HM l[k] (List.getElem_mem hkl)
      have hL := (unhide HW).below hbel
      have q0 := hL.c0 k hkl
      have q1 := hL.c1 k hkl
      have q2 := hL.c2 k hkl
      have q3 := hL.c3 k hkl
      have q4 := hL.c4 k hkl
      have hbw := hL.blk
      have HY := hide hmay
      have hHB := hide hbel
      clear hL hbel hmay
      generalize hf : l[k] = f at *
      clear hf
      go_wp2_with fail
      refine (check_ok f.s f.p f.b f.r f.d _ (unhide HY)).mono ?_
      rintro e w1 ⟨rfl, hb1⟩
      clear q0 q1 q2 q3 q4
      go_wp2_with fail
      go_roundw
      case rel =>
        refine ⟨k + 1, by omega, by go_num, ?_⟩
        exact (unhide hHB).trans (((Below.refl _ _).alloc (Nat.le_refl _) _).trans (hb1.mono (by simp)) |>.mono (unhide hHB).size)
      case measure => simp [intOf]; omega
    · have hkn : k = n := by omega
      subst hkn
      have HBel := hide hbel
      clear hbel
      go_wp2_with fail
      go_ret
      exact ⟨rfl, unhide HBel⟩
set_option maxHeartbeats 2000000 in
theorem checkAll_nil (a : Option Addr) (c : Nat) (w : World) :
    Calls Tryz.prog 45 #[.slice a 0 c] w fun e w' => e = .returned .nilIface ∧ w' = w := by
  go_enter Tryz.func45, Tryz.ntmps45
  go_wp2_with fail
  go_rounds 1
  go_ret
  exact ⟨rfl, rfl⟩
theorem checkAll_F (v : Value) (l : List Fl) (w : World) (hw : Fls w v l) (hl : l.length ≤ 6) (hm : ∀ f ∈ l, f.may) :
    Calls Tryz.prog 45 #[v] w fun e w' => e = .returned .nilIface ∧ Below w.heap.size w w' := by
  rcases hw with ⟨rfl, a, c, rfl⟩ | ⟨b, o, c, rfl, h⟩
  · refine (checkAll_nil a c w).mono ?_
    rintro e w' ⟨rfl, rfl⟩
    exact ⟨rfl, Below.refl _ _⟩
  · exact checkAll_some b o c l w hl h hm
end Go.Proofs.YtcnmajndackohaaGreatDoor
/-
  Plain: the least violation up to the tick 1300 is the least one up to 7000; which flows may be, as a test.
-/
namespace Go.Proofs.YtcnmajndackohaaGreatDoor
def rates : List Fl → Int
  | [] => 0
  | f :: l => f.r + rates l
theorem e_step {f : Fl} (h : f.may) {t : Int} (ht : 460 ≤ t) : f.e (t + 12) = f.e t + f.r := by
  obtain ⟨s0, s1, b0, b1, r0, p0, p1, d0, d1⟩ := h
  unfold Fl.e
  have e : t + 12 - f.d = (t - f.d) + 12 := by omega
  rw [e]
  have hx : 360 ≤ t - f.d := by omega
  generalize t - f.d = x at *
  rw [allow_pos _ _ _ _ _ (by omega), allow_pos _ _ _ _ _ (by omega), Int.mul_add, Int.mul_add]
  have m3 : 0 ≤ f.r * x := Int.mul_nonneg r0 (by omega)
  by_cases hp : f.p = f.r
  · rw [hp]; omega
  · have m5 : 1 * x ≤ (f.p - f.r) * x := mul_le (by omega) (by omega)
    rw [Int.sub_mul] at m5
    omega
theorem tot_step {l : List Fl} (h : ∀ f ∈ l, f.may) {t : Int} (ht : 460 ≤ t) : tot (t + 12) l = tot t l + rates l := by
  induction l with
  | nil => simp [tot, rates]
  | cons f l ih =>
    have a := ih fun g hg => h g (List.mem_cons_of_mem _ hg)
    have b := e_step (h f (List.mem_cons_self ..)) ht
    simp only [tot, rates]; omega
theorem e_low {f : Fl} (h : f.may) {t : Int} (ht : 100 ≤ t) : 2 ≤ f.e t := by
  obtain ⟨s0, s1, b0, b1, r0, p0, p1, d0, d1⟩ := h
  unfold Fl.e
  have m1 : 0 ≤ f.p * (t - f.d) := Int.mul_nonneg (by omega) (by omega)
  have m3 : 0 ≤ f.r * (t - f.d) := Int.mul_nonneg r0 (by omega)
  rw [allow_pos _ _ _ _ _ (by omega)]; omega
theorem e_high {f : Fl} (h : f.may) : 2 + 100 * f.r ≤ f.e 1300 := by
  obtain ⟨s0, s1, b0, b1, r0, p0, p1, d0, d1⟩ := h
  unfold Fl.e
  have m3 : f.r * 1200 ≤ f.r * (1300 - f.d) := Int.mul_le_mul_of_nonneg_left (by omega) r0
  have m4 : f.r * (1300 - f.d) ≤ f.p * (1300 - f.d) := mul_le p0 (by omega)
  rw [allow_pos _ _ _ _ _ (by omega)]; omega
theorem tot_low {l : List Fl} (h : ∀ f ∈ l, f.may) {t : Int} (ht : 100 ≤ t) (hl : l ≠ []) : 0 < tot t l := by
  cases l with
  | nil => exact absurd rfl hl
  | cons f l =>
    have a := e_low (h f (List.mem_cons_self ..)) ht
    have b : 0 ≤ tot t l := by
      clear a hl
      induction l with
      | nil => simp [tot]
      | cons g l ih =>
        have := ih fun k hk => h k (by
          rcases List.mem_cons.1 hk with e | e
          · rw [e]; exact List.mem_cons_self ..
          · exact List.mem_cons_of_mem _ (List.mem_cons_of_mem _ e))
        have c := e_low (h g (List.mem_cons_of_mem _ (List.mem_cons_self ..))) ht
        simp only [tot]; omega
    simp only [tot]; omega
theorem tot_high {l : List Fl} (h : ∀ f ∈ l, f.may) : 100 * rates l ≤ tot 1300 l := by
  induction l with
  | nil => simp [tot, rates]
  | cons f l ih =>
    have a := ih fun g hg => h g (List.mem_cons_of_mem _ hg)
    have b := e_high (h f (List.mem_cons_self ..))
    simp only [tot, rates]; omega
theorem no_more {l : List Fl} (h : ∀ f ∈ l, f.may) (h0 : ∀ u, 1 ≤ u → u ≤ 1300 → vioB l u = false) : ∀ (n : Nat) (u : Int), 1 ≤ u → u ≤ n → vioB l u = false := by
  have hf : ∀ u, vioB l u = false ↔ ¬ (0 < tot u l ∧ u < tot u l + 7) := fun u => by
    rw [← Bool.not_eq_true]; unfold vioB; simp
  by_cases hl : l = []
  · subst hl
    intro n u _ _
    rw [hf]; simp [tot]
  have hR : rates l ≤ 12 := by
    have := h0 1300 (by decide) (by decide)
    rw [hf] at this
    have a := tot_low h (t := 1300) (by decide) hl
    have b := tot_high h
    omega
  intro n
  induction n with
  | zero => intro u h1 h2; omega
  | succ n ih =>
    intro u h1 h2
    by_cases hu : u ≤ 1300
    · exact h0 u h1 hu
    · have a := ih (u - 12) (by omega) (by omega)
      rw [hf] at a ⊢
      have b := tot_low h (t := u - 12) (by omega) hl
      have c := tot_step h (t := u - 12) (by omega)
      rw [show u - 12 + 12 = u by omega] at c
      omega
theorem seek_more (l : List Fl) (n m : Nat) : ∀ t : Int, seek l n t ≠ 0 → seek l (n + m) t = seek l n t := by
  induction n with
  | zero => intro t h; exact absurd rfl h
  | succ n ih =>
    intro t h
    rw [show n + 1 + m = (n + m) + 1 by omega]
    by_cases hv : vioB l t = true
    · rw [seek_step_yes hv, seek_step_yes hv]
    · have hv' : vioB l t = false := by simpa using hv
      rw [seek_step_no hv'] at h ⊢
      rw [seek_step_no hv']
      exact ih _ h
/-- The document's own bound. -/
theorem seek_far {l : List Fl} (h : ∀ f ∈ l, f.may) : seek l 7000 1 = viol l := by
  by_cases h0 : viol l = 0
  · rcases viol_spec l with ⟨_, hn⟩ | ⟨h1, _⟩
    · rcases seek_spec l 7000 1 (by decide) with ⟨h1, _⟩ | ⟨h1, h2, h3, _⟩
      · rw [h1, h0]
      · have := no_more h hn 7000 (seek l 7000 1) h1 (by omega)
        rw [this] at h3; cases h3
    · omega
  · exact seek_more l 1300 5700 1 h0
/-- May a flow be? -/
def Fl.mayB (f : Fl) : Bool := (decide (2 ≤ f.s) && decide (f.s ≤ 8) && decide (f.s ≤ f.b) && decide (f.b ≤ 30)) && (decide (0 ≤ f.r) && decide (f.r ≤ 12) && decide (f.r ≤ f.p) && decide (f.p ≤ 12)) && decide (f.s ≤ f.d) && decide (f.d ≤ 100)
theorem mayB_iff (f : Fl) : f.mayB = true ↔ f.may := by
  unfold Fl.mayB Fl.may
  simp only [Bool.and_eq_true, decide_eq_true_eq]
  constructor
  · rintro ⟨⟨⟨⟨⟨⟨a1, a2⟩, a3⟩, a4⟩, ⟨⟨b1, b2⟩, b3⟩, b4⟩, c1⟩, c2⟩
    exact ⟨a1, a2, a3, a4, b1, b3, b4, c1, c2⟩
  · rintro ⟨s0, s1, b0, b1, r0, p0, p1, d0, d1⟩
    exact ⟨⟨⟨⟨⟨⟨s0, s1⟩, b0⟩, b1⟩, ⟨⟨r0, by omega⟩, p0⟩, p1⟩, d0⟩, d1⟩
/-- May flows be together? -/
def allB (l : List Fl) : Bool := l.all Fl.mayB && decide (l.length ≤ 6)
theorem all_may {l : List Fl} (h : l.all Fl.mayB = true) : ∀ f ∈ l, f.may := fun f hf => (mayB_iff f).1 (List.all_eq_true.1 h f hf)
theorem all_take_succ (l : List Fl) (k : Nat) (h : k < l.length) : (l.take (k + 1)).all Fl.mayB = ((l.take k).all Fl.mayB && (l[k]'h).mayB) := by
  rw [List.take_succ_eq_append_getElem h, List.all_append]; simp
theorem all_false {l : List Fl} {k : Nat} (h : k < l.length) (hf : (l[k]'h).mayB = false) : l.all Fl.mayB = false := by
  rw [List.all_eq_false]
  exact ⟨_, List.getElem_mem h, by simp [hf]⟩
end Go.Proofs.YtcnmajndackohaaGreatDoor
/-
  Plain: a heap in a list: what goes up, what goes down, what stands on top.
-/
namespace Go.Proofs.YtcnmajndackohaaGreatDoor
/-- An entry of the queue: a packet that is ready, and its deadline. -/
structure En where
  flow : Int
  seq : Int
  size : Int
  ready : Int
  dl : Int
/-- Is it to begin ahead of the other one? -/
def En.lt (a b : En) : Bool := decide (a.dl < b.dl) || (decide (a.dl = b.dl) && (decide (a.flow < b.flow) || (decide (a.flow = b.flow) && decide (a.seq < b.seq))))
def En.le (a b : En) : Prop := a.dl < b.dl ∨ (a.dl = b.dl ∧ (a.flow < b.flow ∨ (a.flow = b.flow ∧ a.seq ≤ b.seq)))
theorem En.lt_iff (a b : En) : a.lt b = true ↔ a.dl < b.dl ∨ (a.dl = b.dl ∧ (a.flow < b.flow ∨ (a.flow = b.flow ∧ a.seq < b.seq))) := by
  unfold En.lt; simp only [Bool.or_eq_true, Bool.and_eq_true, decide_eq_true_eq]
theorem En.le_of_lt {a b : En} (h : a.lt b = true) : a.le b := by rw [En.lt_iff] at h; unfold En.le; omega
theorem En.le_of_not {a b : En} (h : a.lt b = false) : b.le a := by
  have : ¬ a.lt b = true := by rw [h]; decide
  rw [En.lt_iff] at this; unfold En.le; omega
theorem En.le_trans {a b c : En} (h : a.le b) (k : b.le c) : a.le c := by unfold En.le at *; omega
theorem En.le_refl (a : En) : a.le a := by unfold En.le; omega
def En.z : En := ⟨0, 0, 0, 0, 0⟩
def ea (l : List En) (k : Nat) : En := l.getD k En.z
def swp (l : List En) (i j : Nat) : List En := (l.set i (ea l j)).set j (ea l i)
theorem ea_get {l : List En} {k : Nat} (h : k < l.length) : ea l k = l[k] := by unfold ea; rw [List.getD_eq_getElem?_getD, List.getElem?_eq_getElem h]; rfl
theorem swp_length (l : List En) (i j : Nat) : (swp l i j).length = l.length := by unfold swp; simp
theorem swp_at {l : List En} {i j : Nat} (hi : i < l.length) (hj : j < l.length) (k : Nat) : ea (swp l i j) k = if k = j then ea l i else if k = i then ea l j else ea l k := by
  unfold swp
  generalize ea l j = a
  generalize ea l i = b
  unfold ea
  simp only [List.getD_eq_getElem?_getD, List.getElem?_set, List.length_set]
  by_cases h1 : k = j
  · rw [if_pos h1, h1, if_pos rfl, if_pos hj]; rfl
  · rw [if_neg (fun c => h1 c.symm), if_neg h1]
    by_cases h2 : k = i
    · rw [if_pos h2, h2, if_pos rfl, if_pos hi]; rfl
    · rw [if_neg (fun c => h2 c.symm), if_neg h2]
theorem swp_perm {l : List En} {i j : Nat} (hi : i < l.length) (hj : j < l.length) : (swp l i j).Perm l := by
  unfold swp
  rw [ea_get hi, ea_get hj]
  exact List.set_set_perm hi hj
/-- Where one hangs. -/
def par (k : Nat) : Nat := (k - 1) / 2
/-- The first n are a heap. -/
def HeapN (l : List En) (n : Nat) : Prop := ∀ k, 0 < k → k < n → (ea l (par k)).le (ea l k)
theorem HeapN.top {l : List En} {n : Nat} (h : HeapN l n) : ∀ k, k < n → (ea l 0).le (ea l k) := by
  intro k
  induction k using Nat.strongRecOn with
  | _ k ih =>
    intro hk
    by_cases h0 : k = 0
    · rw [h0]; exact En.le_refl _
    · have hp : par k < k := by unfold par; omega
      exact En.le_trans (ih _ hp (by omega)) (h k (by omega) hk)
/-- All but what stands at j is as it should be; j may have to go up. -/
structure UpI (l : List En) (j : Nat) : Prop where
  jl : j < l.length
  a : ∀ k, 0 < k → k < l.length → k ≠ j → (ea l (par k)).le (ea l k)
  b : 0 < j → ∀ k, 0 < k → k < l.length → par k = j → (ea l (par j)).le (ea l k)
theorem UpI.start {l : List En} (h : HeapN l l.length) (x : En) : UpI (l ++ [x]) l.length := by
  have e : ∀ k, k < l.length → ea (l ++ [x]) k = ea l k := fun k hk => by
    rw [ea_get (by simp; omega), ea_get hk, List.getElem_append_left hk]
  refine ⟨by simp, fun k h0 hk hj => ?_, fun h0 k hk0 hk hp => ?_⟩
  · have hk' : k < l.length := by simp at hk; omega
    rw [e k hk', e (par k) (by unfold par; omega)]
    exact h k h0 hk'
  · unfold par at hp; simp at hk; omega
theorem UpI.ends {l : List En} {j : Nat} (h : UpI l j) (hx : j = 0 ∨ (ea l j).lt (ea l (par j)) = false) : HeapN l l.length := by
  intro k h0 hk
  by_cases hj : k = j
  · rcases hx with h1 | h1
    · omega
    · rw [hj]; exact En.le_of_not h1
  · exact h.a k h0 hk hj
theorem UpI.step {l : List En} {j : Nat} (h : UpI l j) (h0 : 0 < j) (hlt : (ea l j).lt (ea l (par j)) = true) : UpI (swp l (par j) j) (par j) := by
  have hj := h.jl
  have hpj : par j < j := by unfold par; omega
  have hi : par j < l.length := by omega
  have hle := En.le_of_lt hlt
  refine ⟨by rw [swp_length]; exact hi, fun k k0 hk hne => ?_, fun p0 k k0 hk hp => ?_⟩
  · rw [swp_length] at hk
    rw [swp_at hi hj, swp_at hi hj]
    by_cases hkj : k = j
    · subst hkj
      rw [if_pos rfl, if_neg (by omega), if_pos rfl]
      exact hle
    · rw [if_neg hkj, if_neg hne]
      by_cases hp : par k = j
      · rw [if_pos hp]; exact h.b h0 k k0 hk hp
      · rw [if_neg hp]
        by_cases hq : par k = par j
        · rw [if_pos hq]
          have := h.a k k0 hk hkj
          rw [hq] at this
          exact En.le_trans hle this
        · rw [if_neg hq]; exact h.a k k0 hk hkj
  · rw [swp_length] at hk
    have hpp : par (par j) < par j := by unfold par at *; omega
    rw [swp_at hi hj, swp_at hi hj, if_neg (by omega), if_neg (by omega)]
    have hpar := h.a (par j) p0 hi (by omega)
    by_cases hkj : k = j
    · rw [if_pos hkj]; exact hpar
    · rw [if_neg hkj]
      have hki : k ≠ par j := by intro e; rw [e] at hp; omega
      rw [if_neg hki]
      have := h.a k k0 hk hkj
      rw [hp] at this
      exact En.le_trans hpar this
/-- All of the first n but what stands at i is as it should be; i may have to go down. -/
structure DnI (l : List En) (n i : Nat) : Prop where
  nl : n ≤ l.length
  a : ∀ k, 0 < k → k < n → par k ≠ i → (ea l (par k)).le (ea l k)
  b : 0 < i → ∀ k, 0 < k → k < n → par k = i → (ea l (par i)).le (ea l k)
theorem DnI.start {l : List En} {n : Nat} (hl : l.length = n + 1) (h : HeapN l l.length) : DnI (swp l 0 n) n 0 := by
  refine ⟨by rw [swp_length]; omega, fun k k0 hk hp => ?_, fun h0 => by omega⟩
  have hpk : par k < k := by unfold par; omega
  rw [swp_at (by omega) (by omega), swp_at (by omega) (by omega), if_neg (by omega), if_neg hp, if_neg (by omega), if_neg (by omega)]
  exact h k k0 (by omega)
/-- The lesser one of the two that hang on i. -/
def kid (l : List En) (n i : Nat) : Nat := if 2 * i + 2 < n ∧ (ea l (2 * i + 2)).lt (ea l (2 * i + 1)) = true then 2 * i + 2 else 2 * i + 1
theorem kid_or (l : List En) (n i : Nat) : kid l n i = 2 * i + 1 ∨ (kid l n i = 2 * i + 2 ∧ 2 * i + 2 < n) := by
  unfold kid; split
  · rename_i h; exact .inr ⟨rfl, h.1⟩
  · exact .inl rfl
theorem kid_least {l : List En} {n i k : Nat} (k0 : 0 < k) (hk : k < n) (hp : par k = i) : (ea l (kid l n i)).le (ea l k) := by
  have hk' : k = 2 * i + 1 ∨ k = 2 * i + 2 := by unfold par at hp; omega
  unfold kid
  split
  · rename_i h
    rcases hk' with rfl | rfl
    · exact En.le_of_lt h.2
    · exact En.le_refl _
  · rename_i h
    rcases hk' with rfl | rfl
    · exact En.le_refl _
    · cases hb : (ea l (2 * i + 2)).lt (ea l (2 * i + 1)) with
      | false => exact En.le_of_not hb
      | true => exact absurd ⟨hk, hb⟩ h
theorem DnI.leaf {l : List En} {n i : Nat} (h : DnI l n i) (hx : n ≤ 2 * i + 1) : HeapN l n := by
  intro k k0 hk
  exact h.a k k0 hk (by unfold par; omega)
theorem DnI.ends {l : List En} {n i : Nat} (h : DnI l n i) (hx : (ea l (kid l n i)).lt (ea l i) = false) : HeapN l n := by
  intro k k0 hk
  by_cases hp : par k = i
  · rw [hp]; exact En.le_trans (En.le_of_not hx) (kid_least k0 hk hp)
  · exact h.a k k0 hk hp
theorem DnI.step {l : List En} {n i : Nat} (h : DnI l n i) (hc : 2 * i + 1 < n) (hlt : (ea l (kid l n i)).lt (ea l i) = true) : DnI (swp l i (kid l n i)) n (kid l n i) := by
  have hnl := h.nl
  have hkid := kid_or l n i
  have hleast := fun k k0 hk hp => kid_least (l := l) (n := n) (i := i) (k := k) k0 hk hp
  generalize kid l n i = j at *
  have hjn : j < n := by omega
  have hpj : par j = i := by unfold par; omega
  have hle := En.le_of_lt hlt
  refine ⟨by rw [swp_length]; exact hnl, fun k k0 hk hp => ?_, fun h0 k k0 hk hp => ?_⟩
  · rw [swp_at (by omega) (by omega), swp_at (by omega) (by omega), if_neg hp]
    by_cases hkj : k = j
    · subst hkj
      rw [if_pos rfl, if_pos hpj]; exact hle
    · rw [if_neg hkj]
      by_cases hki : k = i
      · subst hki
        rw [if_pos rfl, if_neg (by unfold par; omega)]
        exact h.b k0 j (by omega) hjn hpj
      · rw [if_neg hki]
        by_cases hpi : par k = i
        · rw [if_pos hpi]; exact hleast k k0 hk hpi
        · rw [if_neg hpi]; exact h.a k k0 hk hpi
  · have hkk : par k < k := by unfold par; omega
    rw [hpj, swp_at (by omega) (by omega), swp_at (by omega) (by omega), if_neg (by omega), if_pos rfl, if_neg (by omega), if_neg (by omega)]
    have := h.a k k0 hk (by omega)
    rw [hp] at this
    exact this
/-- What is behind the first n stays. -/
theorem swp_far {l : List En} {n i j : Nat} (hn : n ≤ l.length) (hi : i < n) (hj : j < n) {k : Nat} (hk : n ≤ k) : ea (swp l i j) k = ea l k := by
  rw [swp_at (by omega) (by omega), if_neg (by omega), if_neg (by omega)]
theorem HeapN.take {l : List En} {n : Nat} (hn : n ≤ l.length) (h : HeapN l n) : HeapN (l.take n) (l.take n).length := by
  have e : ∀ k, k < n → ea (l.take n) k = ea l k := fun k hk => by
    rw [ea_get (by simp; omega), ea_get (by omega), List.getElem_take]
  intro k k0 hk
  have hk' : k < n := by simp at hk; omega
  rw [e k hk', e (par k) (by unfold par; omega)]
  exact h k k0 hk'
theorem take_snoc {l : List En} {n : Nat} (hn : l.length = n + 1) : l = l.take n ++ [ea l n] := by
  rw [ea_get (by omega)]
  conv => lhs; rw [← List.take_append_drop n l]
  rw [List.drop_eq_getElem_cons (by omega), List.drop_of_length_le (by omega)]
end Go.Proofs.YtcnmajndackohaaGreatDoor
/-
  Plain: what of a flow is ready in some time is as much as may come in it.
-/
namespace Go.Proofs.YtcnmajndackohaaGreatDoor
/-- How much of a flow may come in t ticks. -/
def Fl.am (f : Fl) (t : Int) : Int := allow f.s f.p f.b f.r t
theorem am_zero {f : Fl} (h : f.may) : f.am 0 = f.s := allow_zero h
/-- What does not change of a packet: its flow, its size, when it is ready. -/
structure Sk where
  flow : Int
  size : Int
  ready : Int
/-- May a packet that brings its flow's sum to so much be ready at r, behind those that are there (the newest first)? -/
def confL (f : Fl) (k r : Int) : List Sk → Int → Bool
  | [], _ => true
  | p :: l, sum => if p.flow = k then (decide (0 ≤ p.ready) && decide (p.ready ≤ r) && decide (sum + p.size ≤ f.am (r - p.ready)) && confL f k r l (sum + p.size)) else confL f k r l sum
/-- Each packet of flow k conformed to those ahead of it (the newest first). -/
def Cfm (f : Fl) (k : Int) : List Sk → Prop
  | [] => True
  | p :: l => (p.flow = k → 0 ≤ p.ready → p.size ≤ f.am 0 ∧ confL f k p.ready l p.size = true) ∧ Cfm f k l
theorem confL_ready {f : Fl} {k r : Int} : ∀ {l : List Sk} {sum : Int}, confL f k r l sum = true → ∀ x ∈ l, x.flow = k → 0 ≤ x.ready ∧ x.ready ≤ r
  | [], _, _, x, hx, _ => by cases hx
  | p :: l, sum, h, x, hx, hk => by
    unfold confL at h
    split at h
    · simp only [Bool.and_eq_true, decide_eq_true_eq] at h
      rcases List.mem_cons.1 hx with rfl | hx
      · exact ⟨h.1.1.1, h.1.1.2⟩
      · exact confL_ready h.2 x hx hk
    · rename_i hne
      rcases List.mem_cons.1 hx with rfl | hx
      · exact absurd hk hne
      · exact confL_ready h x hx hk
end Go.Proofs.YtcnmajndackohaaGreatDoor
/-
  Plain: a line of flows that fit: what waits for a deadline can still be brought by it.
-/
namespace Go.Proofs.YtcnmajndackohaaGreatDoor
/-- A packet (of none: its flow is -1): when it is ready (-1: never), when it began (-1: it has not). -/
structure Pk where
  flow : Int
  seq : Int
  size : Int
  ready : Int
  start : Int
  dropped : Bool
  told : Bool
def Pk.sk (p : Pk) : Sk := ⟨p.flow, p.size, p.ready⟩
/-- A flow: it lives (0), lingers (1), is away (2). -/
structure Stt where
  f : Fl
  is : Int
def dueOf (fl : List Stt) (k : Int) : Int := match fl[k.toNat]? with
  | some s => s.f.d
  | none => 0
def isOf (fl : List Stt) (k : Int) : Int := match fl[k.toNat]? with
  | some s => s.is
  | none => 2
/-- The flows that live or linger. -/
def lv (fl : List Stt) : List Fl := (fl.filter fun s => decide (s.is < 2)).map Stt.f
def Fit (l : List Fl) : Prop := ∀ u, 1 ≤ u → vioB l u = false
/-- Is it a packet of a flow that is ready by now, with a deadline up to d? -/
def cnt (now : Int) (fl : List Stt) (d : Int) (p : Pk) : Bool :=
  decide (0 ≤ p.flow) && !p.dropped && decide (0 ≤ p.ready) && decide (p.ready ≤ now) && decide (p.ready + dueOf fl p.flow ≤ d)
/-- What is left of one that has begun. -/
def run (now : Int) (p : Pk) : Int := if p.start < 0 then 0 else if now < p.start + p.size then p.start + p.size - now else 0
/-- What is left of one. -/
def rem (now : Int) (p : Pk) : Int := if p.start < 0 then p.size else if now < p.start + p.size then p.start + p.size - now else 0
def wb (now : Int) (fl : List Stt) (d : Int) (p : Pk) : Int := if cnt now fl d p = true then rem now p else run now p
/-- Has it not begun, or ended? -/
def done (now : Int) (p : Pk) : Prop := p.start < 0 ∨ p.start + p.size ≤ now
/-- At most one packet is under way. -/
def Und (now : Int) (pk : List Pk) : Prop := (∀ q ∈ pk, done now q) ∨ ∃ l1 p l2, pk = l1 ++ p :: l2 ∧ 0 ≤ p.start ∧ now < p.start + p.size ∧ (∀ q ∈ l1, done now q) ∧ ∀ q ∈ l2, done now q
/-- What holds of every line. -/
structure Bas (now : Int) (fl : List Stt) (pk : List Pk) : Prop where
  n0 : 0 ≤ now
  may : ∀ st ∈ fl, st.f.may
  sz : ∀ p ∈ pk, 1 ≤ p.size ∧ p.size ≤ 8
  own : ∀ p ∈ pk, 0 ≤ p.flow → p.flow.toNat < fl.length
  cf : ∀ (k : Nat) st, fl[k]? = some st → Cfm st.f k (pk.map Pk.sk).reverse
  st : ∀ p ∈ pk, 0 ≤ p.start → 0 ≤ p.ready ∧ p.ready ≤ p.start ∧ p.start < now
  lg : ∀ p ∈ pk, 0 ≤ p.flow → p.dropped = false → isOf fl p.flow = 1 → 0 ≤ p.ready ∧ p.ready ≤ now
  aw : ∀ p ∈ pk, 0 ≤ p.flow → p.dropped = false → 2 ≤ isOf fl p.flow → 0 ≤ p.ready ∧ p.ready < now
  und : Und now pk
end Go.Proofs.YtcnmajndackohaaGreatDoor
/-
  Plain: what holds of a line still holds when a packet is brought, and a tick later.
-/
namespace Go.Proofs.YtcnmajndackohaaGreatDoor
/-- May it begin? -/
def El (now : Int) (p : Pk) : Prop := p.start < 0 ∧ p.dropped = false ∧ 0 ≤ p.ready ∧ p.ready ≤ now
theorem done_later {now : Int} {p : Pk} (h : done now p) : done (now + 1) p := by
  unfold done at *; omega
section push
variable {now : Int} {fl : List Stt} {pk : List Pk} {p : Pk}
/-- A packet that may be brought. -/
structure New (now : Int) (fl : List Stt) (pk : List Pk) (p : Pk) : Prop where
  sz : 1 ≤ p.size ∧ p.size ≤ 8
  st : p.start < 0
  dr : p.dropped = false
  fl : 0 ≤ p.flow → p.flow.toNat < fl.length ∧ isOf fl p.flow = 0 ∧ (p.ready < 0 ∨ now ≤ p.ready) ∧ ∀ st, fl[p.flow.toNat]? = some st → 0 ≤ p.ready → p.size ≤ st.f.am 0 ∧ confL st.f p.flow p.ready (pk.map Pk.sk).reverse p.size = true
theorem Bas.push (h : Bas now fl pk) (n : New now fl pk p) : Bas now fl (pk ++ [p]) := by
  refine ⟨h.n0, h.may, ?_, ?_, ?_, ?_, ?_, ?_, ?_⟩
  · intro q hq
    rcases List.mem_append.1 hq with hq | hq
    · exact h.sz q hq
    · obtain rfl := List.mem_singleton.1 hq; exact n.sz
  · intro q hq h0
    rcases List.mem_append.1 hq with hq | hq
    · exact h.own q hq h0
    · obtain rfl := List.mem_singleton.1 hq; exact (n.fl h0).1
  · intro k st hk
    rw [List.map_append, List.reverse_append]
    refine ⟨fun e hr => ?_, h.cf k st hk⟩
    have e' : p.flow = k := e
    have e2 : p.flow.toNat = k := by omega
    have := (n.fl (by omega)).2.2.2 st (by rw [e2]; exact hk) hr
    rw [e'] at this
    exact this
  · intro q hq h0
    rcases List.mem_append.1 hq with hq | hq
    · exact h.st q hq h0
    · obtain rfl := List.mem_singleton.1 hq; have := n.st; omega
  · intro q hq h0 h1 h2
    rcases List.mem_append.1 hq with hq | hq
    · exact h.lg q hq h0 h1 h2
    · obtain rfl := List.mem_singleton.1 hq; have := (n.fl h0).2.1; omega
  · intro q hq h0 h1 h2
    rcases List.mem_append.1 hq with hq | hq
    · exact h.aw q hq h0 h1 h2
    · obtain rfl := List.mem_singleton.1 hq; have := (n.fl h0).2.1; omega
  · rcases h.und with hd | ⟨l1, q, l2, e, h0, h1, d1, d2⟩
    · left
      intro q hq
      rcases List.mem_append.1 hq with hq | hq
      · exact hd q hq
      · obtain rfl := List.mem_singleton.1 hq; exact .inl n.st
    · right
      refine ⟨l1, q, l2 ++ [p], by rw [e]; simp, h0, h1, d1, fun x hx => ?_⟩
      rcases List.mem_append.1 hx with hx | hx
      · exact d2 x hx
      · obtain rfl := List.mem_singleton.1 hx; exact .inl n.st
end push
/-- What is ready just at the next tick, with a deadline up to d. -/
def nw (now : Int) (fl : List Stt) (d : Int) (p : Pk) : Int := if cnt (now + 1) fl d p = true ∧ p.ready = now + 1 then p.size else 0
section tick
variable {now : Int} {fl : List Stt} {pk : List Pk}
/-- A tick later, of the same packets. -/
theorem Bas.later (h : Bas now fl pk) (hu : Und (now + 1) pk) : Bas (now + 1) fl pk :=
  ⟨by have := h.n0; omega, h.may, h.sz, h.own, h.cf, fun p hp h0 => by have := h.st p hp h0; omega, fun p hp a b c => by have := h.lg p hp a b c; omega, fun p hp a b c => by have := h.aw p hp a b c; omega, hu⟩
theorem Bas.busy (h : Bas now fl pk) {l1 l2 : List Pk} {p : Pk} (e : pk = l1 ++ p :: l2) (h0 : 0 ≤ p.start) (h1 : now < p.start + p.size) (d1 : ∀ q ∈ l1, done now q) (d2 : ∀ q ∈ l2, done now q) : Bas (now + 1) fl pk := by
  refine h.later ?_
  by_cases g : now + 1 < p.start + p.size
  · exact .inr ⟨l1, p, l2, e, h0, g, fun q hq => done_later (d1 q hq), fun q hq => done_later (d2 q hq)⟩
  · left
    intro q hq
    rw [e] at hq
    rcases List.mem_append.1 hq with hq | hq
    · exact done_later (d1 q hq)
    · rcases List.mem_cons.1 hq with rfl | hq
      · exact .inr (by omega)
      · exact done_later (d2 q hq)
theorem Bas.idle (h : Bas now fl pk) (hall : ∀ q ∈ pk, done now q) : Bas (now + 1) fl pk := h.later (.inl fun q hq => done_later (hall q hq))
/-- One begins. -/
def beg (now : Int) (p : Pk) : Pk := { p with start := now }
theorem mem_beg {l1 l2 : List Pk} {p q : Pk} (hq : q ∈ l1 ++ beg now p :: l2) : q = beg now p ∨ q ∈ l1 ++ p :: l2 := by
  rcases List.mem_append.1 hq with hq | hq
  · exact .inr (List.mem_append.2 (.inl hq))
  · rcases List.mem_cons.1 hq with hq | hq
    · exact .inl hq
    · exact .inr (List.mem_append.2 (.inr (List.mem_cons_of_mem _ hq)))
theorem Bas.begins {l1 l2 : List Pk} {p : Pk} (h : Bas now fl (l1 ++ p :: l2)) (hall : ∀ q ∈ l1 ++ p :: l2, done now q) (he : El now p) : Bas (now + 1) fl (l1 ++ beg now p :: l2) := by
  have hp : p ∈ l1 ++ p :: l2 := by simp
  have hz := h.sz p hp
  have hn := h.n0
  refine ⟨by omega, h.may, ?_, ?_, ?_, ?_, ?_, ?_, ?_⟩
  · intro q hq
    rcases mem_beg hq with rfl | hq
    · exact hz
    · exact h.sz q hq
  · intro q hq h0
    rcases mem_beg hq with rfl | hq
    · exact h.own p hp h0
    · exact h.own q hq h0
  · intro k st hk
    have := h.cf k st hk
    rw [List.map_append, List.map_cons] at this ⊢
    exact this
  · intro q hq h0
    rcases mem_beg hq with rfl | hq
    · have := he.2.2
      show 0 ≤ p.ready ∧ p.ready ≤ now ∧ now < now + 1
      omega
    · have := h.st q hq h0; omega
  · intro q hq a b c
    rcases mem_beg hq with rfl | hq
    · have := h.lg p hp a b c
      show 0 ≤ p.ready ∧ p.ready ≤ now + 1
      omega
    · have := h.lg q hq a b c; omega
  · intro q hq a b c
    rcases mem_beg hq with rfl | hq
    · have := h.aw p hp a b c
      show 0 ≤ p.ready ∧ p.ready < now + 1
      omega
    · have := h.aw q hq a b c; omega
  · have d1 : ∀ q ∈ l1, done (now + 1) q := fun q hq => done_later (hall q (by simp [hq]))
    have d2 : ∀ q ∈ l2, done (now + 1) q := fun q hq => done_later (hall q (by simp [hq]))
    by_cases g : p.size = 1
    · left
      intro q hq
      rcases List.mem_append.1 hq with hq | hq
      · exact d1 q hq
      · rcases List.mem_cons.1 hq with rfl | hq
        · right; show now + p.size ≤ now + 1; omega
        · exact d2 q hq
    · exact .inr ⟨l1, beg now p, l2, rfl, hn, by show now + 1 < now + p.size; omega, d1, d2⟩
end tick
end Go.Proofs.YtcnmajndackohaaGreatDoor
/-
  Plain: what holds of a line still holds when flows go away, come, are torn down, and when packets are told.
-/
namespace Go.Proofs.YtcnmajndackohaaGreatDoor
/-- One that lingers is away. -/
def gone1 (s : Stt) : Stt := if s.is = 1 then { s with is := 2 } else s
theorem gone1_f (s : Stt) : (gone1 s).f = s.f := by unfold gone1; split <;> rfl
theorem is_gone (fl : List Stt) (k : Int) : isOf (fl.map gone1) k = if isOf fl k = 1 then 2 else isOf fl k := by
  unfold isOf
  rw [List.getElem?_map]
  cases fl[k.toNat]? with
  | none => rfl
  | some s =>
    show (gone1 s).is = if s.is = 1 then 2 else s.is
    unfold gone1; split <;> rfl
section moves
variable {now : Int} {fl : List Stt} {pk : List Pk}
theorem Bas.away (h : Bas now fl pk) (hel : ∀ q ∈ pk, 0 ≤ q.flow → ¬ El now q) : Bas now (fl.map gone1) pk := by
  refine ⟨h.n0, ?_, h.sz, ?_, ?_, h.st, ?_, ?_, h.und⟩
  · intro st hst
    obtain ⟨s, hs, rfl⟩ := List.mem_map.1 hst
    rw [gone1_f]; exact h.may s hs
  · intro p hp h0; rw [List.length_map]; exact h.own p hp h0
  · intro k st hk
    rw [List.getElem?_map] at hk
    obtain ⟨s, hs, rfl⟩ := Option.map_eq_some_iff.1 hk
    rw [gone1_f]; exact h.cf k s hs
  · intro p hp a b c
    rw [is_gone] at c
    split at c <;> omega
  · intro p hp a b c
    rw [is_gone] at c
    split at c
    · rename_i g
      have := h.lg p hp a b g
      by_cases e : p.ready = now
      · exfalso
        by_cases k : p.start < 0
        · exact hel p hp a ⟨k, b, this.1, this.2⟩
        · have := h.st p hp (by omega); omega
      · omega
    · exact h.aw p hp a b c
theorem Cfm_none {f : Fl} {k : Int} : ∀ {l : List Sk}, (∀ x ∈ l, x.flow ≠ k) → Cfm f k l
  | [], _ => trivial
  | p :: _, h => ⟨fun e => absurd e (h p (List.mem_cons_self ..)), Cfm_none fun x hx => h x (List.mem_cons_of_mem _ hx)⟩
theorem get_snoc {α : Type} {l : List α} {x y : α} {k : Nat} (h : (l ++ [x])[k]? = some y) : l[k]? = some y ∨ (k = l.length ∧ y = x) := by
  rcases Nat.lt_or_ge k l.length with g | g
  · rw [List.getElem?_append_left g] at h; exact .inl h
  · rw [List.getElem?_append_right g] at h
    have : k - l.length = 0 := by
      by_cases e : k - l.length = 0
      · exact e
      · rw [List.getElem?_eq_none (by simp; omega)] at h; cases h
    rw [this] at h
    exact .inr ⟨by omega, (Option.some.inj h).symm⟩
/-- A flow comes. -/
theorem Bas.comes (h : Bas now fl pk) {f : Fl} (hf : f.may) : Bas now (fl ++ [⟨f, 0⟩]) pk := by
  have get : ∀ p ∈ pk, 0 ≤ p.flow → (fl ++ [⟨f, 0⟩])[p.flow.toNat]? = fl[p.flow.toNat]? := fun p hp h0 => List.getElem?_append_left (h.own p hp h0)
  have hi : ∀ p ∈ pk, 0 ≤ p.flow → isOf (fl ++ [⟨f, 0⟩]) p.flow = isOf fl p.flow := fun p hp h0 => by unfold isOf; rw [get p hp h0]
  refine ⟨h.n0, ?_, h.sz, ?_, ?_, h.st, ?_, ?_, h.und⟩
  · intro st hst
    rcases List.mem_append.1 hst with hst | hst
    · exact h.may st hst
    · obtain rfl := List.mem_singleton.1 hst; exact hf
  · intro p hp h0; have := h.own p hp h0; simp; omega
  · intro k st hk
    rcases get_snoc hk with hk | ⟨rfl, rfl⟩
    · exact h.cf k st hk
    · refine Cfm_none fun x hx => ?_
      rw [List.mem_reverse, List.mem_map] at hx
      obtain ⟨p, hp, rfl⟩ := hx
      show p.flow ≠ _
      intro e
      have := h.own p hp (by omega)
      omega
  · intro p hp a b c
    rw [hi p hp a] at c; exact h.lg p hp a b c
  · intro p hp a b c
    rw [hi p hp a] at c; exact h.aw p hp a b c
/-- What a change of packets that is not seen leaves. -/
structure Same (now : Int) (h : Pk → Pk) : Prop where
  sk : ∀ p, (h p).sk = p.sk
  st : ∀ p, (h p).start = p.start
  dr : ∀ p, (h p).dropped = false → p.dropped = false
  rd : ∀ p, p.dropped = false → (h p).dropped = true → p.start < 0 ∧ (p.ready < 0 ∨ now < p.ready)
theorem Same.flow {h : Pk → Pk} (s : Same now h) (p : Pk) : (h p).flow = p.flow := congrArg Sk.flow (s.sk p)
theorem Same.size {h : Pk → Pk} (s : Same now h) (p : Pk) : (h p).size = p.size := congrArg Sk.size (s.sk p)
theorem Same.ready {h : Pk → Pk} (s : Same now h) (p : Pk) : (h p).ready = p.ready := congrArg Sk.ready (s.sk p)
theorem Same.done {h : Pk → Pk} (s : Same now h) {p : Pk} (hd : done now p) : Go.Proofs.YtcnmajndackohaaGreatDoor.done now (h p) := by
  unfold Go.Proofs.YtcnmajndackohaaGreatDoor.done at *; rw [s.st, s.size]; exact hd
theorem Bas.same (b : Bas now fl pk) {h : Pk → Pk} (s : Same now h) : Bas now fl (pk.map h) := by
  refine ⟨b.n0, b.may, ?_, ?_, ?_, ?_, ?_, ?_, ?_⟩
  · intro q hq; obtain ⟨p, hp, rfl⟩ := List.mem_map.1 hq; rw [s.size]; exact b.sz p hp
  · intro q hq; obtain ⟨p, hp, rfl⟩ := List.mem_map.1 hq; rw [s.flow]; exact b.own p hp
  · intro k st hk
    rw [List.map_map, show Pk.sk ∘ h = Pk.sk from funext s.sk]
    exact b.cf k st hk
  · intro q hq; obtain ⟨p, hp, rfl⟩ := List.mem_map.1 hq; rw [s.st, s.ready]; exact b.st p hp
  · intro q hq; obtain ⟨p, hp, rfl⟩ := List.mem_map.1 hq; rw [s.flow, s.ready]; exact fun x y z => b.lg p hp x (s.dr p y) z
  · intro q hq; obtain ⟨p, hp, rfl⟩ := List.mem_map.1 hq; rw [s.flow, s.ready]; exact fun x y z => b.aw p hp x (s.dr p y) z
  · rcases b.und with hd | ⟨l1, p, l2, e, h0, h1, d1, d2⟩
    · left; intro q hq; obtain ⟨p, hp, rfl⟩ := List.mem_map.1 hq; exact s.done (hd p hp)
    · right
      refine ⟨l1.map h, h p, l2.map h, by rw [e]; simp, by rw [s.st]; exact h0, by rw [s.st, s.size]; exact h1, fun q hq => ?_, fun q hq => ?_⟩
      · obtain ⟨p, hp, rfl⟩ := List.mem_map.1 hq; exact s.done (d1 p hp)
      · obtain ⟨p, hp, rfl⟩ := List.mem_map.1 hq; exact s.done (d2 p hp)
/-- A packet of a flow that is torn down. -/
def drp (now k : Int) (p : Pk) : Pk := if p.flow = k ∧ p.start < 0 ∧ (p.ready < 0 ∨ now < p.ready) then { p with dropped := true } else p
theorem same_drp (k : Int) : Same now (drp now k) := by
  refine ⟨fun p => ?_, fun p => ?_, fun p => ?_, fun p => ?_⟩
  · unfold drp; split <;> rfl
  · unfold drp; split <;> rfl
  · unfold drp; split
    · intro e; cases e
    · exact id
  · unfold drp; split
    · rename_i g; exact fun _ _ => g.2
    · intro a b; rw [a] at b; cases b
theorem is_set (fl : List Stt) (k : Nat) (f : Fl) (v j : Int) (hk : k < fl.length) (hj : 0 ≤ j) : isOf (fl.set k ⟨f, v⟩) j = if j = k then v else isOf fl j := by
  unfold isOf
  by_cases e : j = k
  · rw [if_pos e, show j.toNat = k by omega, List.getElem?_set_self hk]
  · rw [if_neg e, List.getElem?_set_ne (by omega)]
theorem due_set (fl : List Stt) (k : Nat) (f : Fl) (v w j : Int) (hk : fl[k]? = some ⟨f, w⟩) : dueOf (fl.set k ⟨f, v⟩) j = dueOf fl j := by
  have hl : k < fl.length := (List.getElem?_eq_some_iff.1 hk).1
  unfold dueOf
  by_cases e : j.toNat = k
  · rw [e, List.getElem?_set_self hl, hk]
  · rw [List.getElem?_set_ne (by omega)]
/-- A flow is torn down: it lingers. -/
theorem Bas.torn (h : Bas now fl pk) {k : Nat} {f : Fl} (hk : fl[k]? = some ⟨f, 0⟩) : Bas now (fl.set k ⟨f, 1⟩) (pk.map (drp now k)) := by
  have b := h.same (same_drp (now := now) (k : Int))
  have hl : k < fl.length := (List.getElem?_eq_some_iff.1 hk).1
  refine ⟨b.n0, ?_, b.sz, ?_, ?_, b.st, ?_, ?_, b.und⟩
  · intro st hst
    rcases List.mem_or_eq_of_mem_set hst with g | rfl
    · exact b.may st g
    · exact b.may ⟨f, 0⟩ (List.mem_of_getElem? hk)
  · intro p hp h0; rw [List.length_set]; exact b.own p hp h0
  · intro j st hj
    by_cases e : j = k
    · subst e
      rw [List.getElem?_set_self hl] at hj
      obtain rfl := Option.some.inj hj
      exact b.cf j ⟨f, 0⟩ hk
    · rw [List.getElem?_set_ne (by omega)] at hj
      exact b.cf j st hj
  · intro q hq a c e
    rw [is_set _ _ _ _ _ hl a] at e
    split at e
    · rename_i g
      obtain ⟨p, hp, rfl⟩ := List.mem_map.1 hq
      rw [(same_drp (now := now) (k : Int)).flow] at g
      rw [(same_drp (now := now) (k : Int)).ready]
      by_cases hs : p.start < 0
      · by_cases hr : p.ready < 0 ∨ now < p.ready
        · exfalso
          unfold drp at c
          rw [if_pos ⟨g, hs, hr⟩] at c
          cases c
        · omega
      · have := h.st p hp (by omega); omega
    · exact b.lg q hq a c e
  · intro q hq a c e
    rw [is_set _ _ _ _ _ hl a] at e
    split at e
    · omega
    · exact b.aw q hq a c e
end moves
end Go.Proofs.YtcnmajndackohaaGreatDoor
/-
  Plain: the line as the document tells it, step by step; what holds of it always.
-/
namespace Go.Proofs.YtcnmajndackohaaGreatDoor
/-- A line: its tick, all flows that ever were, all packets that ever were, which of them began, in their order. -/
structure Ln where
  now : Int
  fl : List Stt
  pk : List Pk
  began : List Nat
def Ln.new (l : List Fl) : Ln := ⟨0, l.map fun f => ⟨f, 0⟩, [], []⟩
/-- How many packets of a flow have not begun. -/
def Ln.waiting (x : Ln) (k : Int) : Nat := x.pk.countP fun p => decide (p.flow = k) && decide (p.start < 0) && !p.dropped
/-- How many packets of a flow there were. -/
def Ln.seqOf (x : Ln) (k : Int) : Nat := x.pk.countP fun p => decide (p.flow = k)
def conf (f : Fl) (k size : Int) (l : List Sk) (r : Int) : Bool := decide (size ≤ f.am 0) && confL f k r l size
/-- The least tick from which on a packet can be ready. -/
def latest (k now : Int) (pk : List Pk) : Int := pk.foldl (fun m p => if p.flow = k ∧ m < p.ready then p.ready else m) now
/-- The least of n ticks from r on at which it may; -1: there is none. -/
def seekR (c : Int → Bool) : Nat → Int → Int
  | 0, _ => -1
  | n + 1, r => if c r = true then r else seekR c n (r + 1)
def Ln.readyAt (x : Ln) (f : Fl) (k size : Int) : Int := seekR (conf f k size (x.pk.map Pk.sk).reverse) 401 (latest k x.now x.pk)
def Ln.at? (x : Ln) (k : Int) : Option Stt := if 0 ≤ k then x.fl[k.toNat]? else none
def Ln.push (x : Ln) (k size r : Int) : Ln := { x with pk := x.pk ++ [⟨k, x.seqOf k, size, r, -1, false, false⟩] }
def Ln.send (x : Ln) (k size : Int) : Int × Ln :=
  match x.at? k with
  | none => (4, x)
  | some st =>
    if st.is ≠ 0 then (4, x)
    else if size < 1 ∨ st.f.s < size then (5, x)
    else if 40 ≤ x.waiting k then (6, x)
    else (0, x.push k size (x.readyAt st.f k size))
def Ln.other (x : Ln) (size : Int) : Int × Ln :=
  if size < 1 ∨ 8 < size then (5, x)
  else if 40 ≤ x.waiting (-1) then (6, x)
  else (0, x.push (-1) size x.now)
/-- The packet that began last. -/
def Ln.last (x : Ln) : Option Pk := x.began.getLast?.bind fun i => x.pk[i]?
def Ln.busy (x : Ln) : Bool := match x.last with
  | none => false
  | some p => decide (x.now < p.start + p.size)
/-- May it begin, being of a flow or of none? -/
def elB (now : Int) (flows : Bool) (p : Pk) : Bool := decide (p.start < 0) && !p.dropped && decide (0 ≤ p.ready) && decide (p.ready ≤ now) && (decide (0 ≤ p.flow) == flows)
def key (fl : List Stt) (flows : Bool) (p : Pk) : Int := if flows then p.ready + dueOf fl p.flow else 0
/-- The one of them that goes: its place, what is least, its flow. -/
structure Bst where
  i : Nat
  due : Int
  flow : Int
def better (fl : List Stt) (flows : Bool) (p : Pk) : Option Bst → Bool
  | none => true
  | some b => decide (key fl flows p < b.due) || (decide (key fl flows p = b.due) && decide (p.flow < b.flow))
def pickF (now : Int) (fl : List Stt) (flows : Bool) : List Pk → Nat → Option Bst → Option Bst
  | [], _, b => b
  | p :: l, i, b => pickF now fl flows l (i + 1) (if elB now flows p = true ∧ better fl flows p b = true then some ⟨i, key fl flows p, p.flow⟩ else b)
def Ln.first (x : Ln) (flows : Bool) : Option Bst := pickF x.now x.fl flows x.pk 0 none
def Ln.ofFlow (x : Ln) : Bool := match x.last with
  | none => false
  | some p => decide (0 ≤ p.flow)
def Ln.away (x : Ln) : Ln := if (x.first true).isSome = true ∨ (x.busy = true ∧ x.ofFlow = true) then x else { x with fl := x.fl.map gone1 }
def Ln.goes (x : Ln) : Option Bst := match x.first true with
  | some b => some b
  | none => x.first false
def Ln.begins (x : Ln) : Ln := if x.busy = true then x else match x.goes with
  | none => x
  | some b => { x with pk := x.pk.modify b.i (beg x.now), began := x.began ++ [b.i] }
def Ln.tick (x : Ln) : Ln := let y := x.away.begins; { y with now := y.now + 1 }
def Ln.ticks (x : Ln) : Nat → Ln
  | 0 => x
  | n + 1 => x.tick.ticks n
def Ln.run (x : Ln) (n : Int) : Int × Ln := if n < 0 ∨ 200 < n then (1, x) else (0, x.ticks n.toNat)
/-- Has it ended, and not been told? -/
def fresh1 (now : Int) (p : Pk) : Bool := !p.told && decide (p.start + p.size ≤ now)
def tell (p : Pk) : Pk := { p with told := true }
/-- What Gone tells, and what is told then. -/
def goneL (now : Int) : List Nat → List Pk → List Pk × List Pk
  | [], pk => ([], pk)
  | i :: l, pk => match pk[i]? with
    | none => goneL now l pk
    | some p => if fresh1 now p = true then let r := goneL now l (pk.modify i tell); (p :: r.1, r.2) else goneL now l pk
def Ln.gone (x : Ln) : List Pk × Ln := let r := goneL x.now x.began x.pk; (r.1, { x with pk := r.2 })
def Ln.live (x : Ln) : List Fl := lv x.fl
def Ln.setup (x : Ln) (f : Fl) : (Int × Int × Int) × Ln :=
  if f.mayB = false then ((0, 0, 1), x)
  else if 6 < (f :: x.live).length then ((0, 0, 2), x)
  else if 0 < viol (f :: x.live) then ((0, viol (f :: x.live), 3), x)
  else ((x.fl.length, 0, 0), { x with fl := x.fl ++ [⟨f, 0⟩] })
def Ln.teardown (x : Ln) (k : Int) : Int × Ln :=
  match x.at? k with
  | none => (4, x)
  | some st => if st.is ≠ 0 then (4, x) else (0, Ln.away { x with fl := x.fl.set k.toNat ⟨st.f, 1⟩, pk := x.pk.map (drp x.now k) })
/-- What holds of every line. -/
structure Lnv (x : Ln) : Prop extends Bas x.now x.fl x.pk where
  bg : ∀ i ∈ x.began, ∃ p, x.pk[i]? = some p ∧ 0 ≤ p.start
  lst : (∀ q ∈ x.pk, done x.now q) ∨ ∃ l1 p l2, x.pk = l1 ++ p :: l2 ∧ x.began.getLast? = some l1.length ∧ 0 ≤ p.start ∧ x.now < p.start + p.size ∧ (∀ q ∈ l1, done x.now q) ∧ ∀ q ∈ l2, done x.now q
theorem get_at {l1 l2 : List Pk} {p : Pk} : (l1 ++ p :: l2)[l1.length]? = some p := by rw [List.getElem?_append_right (Nat.le_refl _), Nat.sub_self]; rfl
theorem Lnv.idle {x : Ln} (h : Lnv x) (hb : x.busy = false) : ∀ q ∈ x.pk, done x.now q := by
  rcases h.lst with g | ⟨l1, p, l2, e, hl, h0, h1, _⟩
  · exact g
  · exfalso
    unfold Ln.busy Ln.last at hb
    rw [hl] at hb
    simp only [Option.bind_some] at hb
    rw [e, get_at] at hb
    simp only [decide_eq_false_iff_not] at hb
    exact hb h1
theorem Lnv.bsy {x : Ln} (h : Lnv x) (hb : x.busy = true) : ∃ l1 p l2, x.pk = l1 ++ p :: l2 ∧ x.last = some p ∧ x.began.getLast? = some l1.length ∧ 0 ≤ p.start ∧ x.now < p.start + p.size ∧ (∀ q ∈ l1, done x.now q) ∧ ∀ q ∈ l2, done x.now q := by
  rcases h.lst with g | ⟨l1, p, l2, e, hl, h0, h1, h2, h3⟩
  · exfalso
    unfold Ln.busy Ln.last at hb
    cases hl : x.began.getLast? with
    | none => rw [hl] at hb; simp at hb
    | some i =>
      rw [hl] at hb
      simp only [Option.bind_some] at hb
      obtain ⟨p, hp, h0⟩ := h.bg i (List.mem_of_getLast? hl)
      rw [hp] at hb
      simp only [decide_eq_true_eq] at hb
      have := g p (List.mem_of_getElem? hp)
      unfold done at this
      omega
  · refine ⟨l1, p, l2, e, ?_, hl, h0, h1, h2, h3⟩
    unfold Ln.last
    rw [hl]
    simp only [Option.bind_some]
    rw [e, get_at]
theorem elB_iff (now : Int) (flows : Bool) (p : Pk) : elB now flows p = true ↔ El now p ∧ (0 ≤ p.flow ↔ flows = true) := by
  unfold elB El
  simp only [Bool.and_eq_true, decide_eq_true_eq, Bool.not_eq_true', beq_iff_eq]
  constructor
  · rintro ⟨⟨⟨⟨a, b⟩, c⟩, d⟩, e⟩
    refine ⟨⟨a, b, c, d⟩, ?_⟩
    rw [← e]; simp
  · rintro ⟨⟨a, b, c, d⟩, e⟩
    refine ⟨⟨⟨⟨a, b⟩, c⟩, d⟩, ?_⟩
    rw [Bool.eq_iff_iff]; simpa using e
/-- What is picked: of those in the list, or what was picked ahead. -/
theorem pickF_spec {now : Int} {fl : List Stt} {flows : Bool} : ∀ (l : List Pk) (i : Nat) (b : Option Bst),
    (pickF now fl flows l i b = b ∧ (b = none → ∀ q ∈ l, elB now flows q = false) ∧ ∀ c, b = some c → ∀ q ∈ l, elB now flows q = true → c.due ≤ key fl flows q) ∨
    ∃ l1 p l2, l = l1 ++ p :: l2 ∧ elB now flows p = true ∧ pickF now fl flows l i b = some ⟨i + l1.length, key fl flows p, p.flow⟩ ∧ (∀ q ∈ l, elB now flows q = true → key fl flows p ≤ key fl flows q) ∧ ∀ c, b = some c → key fl flows p ≤ c.due
  | [], _, _ => .inl ⟨rfl, (fun _ q hq => absurd hq (List.not_mem_nil)), (fun _ _ q hq => absurd hq (List.not_mem_nil))⟩
  | p :: l, i, b => by
    by_cases g : elB now flows p = true ∧ better fl flows p b = true
    · have e : pickF now fl flows (p :: l) i b = pickF now fl flows l (i + 1) (some ⟨i, key fl flows p, p.flow⟩) := by
        show pickF now fl flows l (i + 1) _ = _; rw [if_pos g]
      have hb : ∀ c, b = some c → key fl flows p ≤ c.due := by
        rintro c rfl
        have := g.2
        unfold better at this
        simp only [Bool.or_eq_true, Bool.and_eq_true, decide_eq_true_eq] at this
        omega
      rcases pickF_spec l (i + 1) (some ⟨i, key fl flows p, p.flow⟩) with ⟨h1, _, h3⟩ | ⟨l1, q, l2, rfl, h2, h3, h4, h5⟩
      · refine .inr ⟨[], p, l, rfl, g.1, by rw [e, h1]; rfl, ?_, hb⟩
        intro q hq he
        rcases List.mem_cons.1 hq with rfl | hq
        · exact Int.le_refl _
        · exact h3 _ rfl q hq he
      · refine .inr ⟨p :: l1, q, l2, rfl, h2, by rw [e, h3]; simp; omega, ?_, ?_⟩
        · intro z hz he
          rcases List.mem_cons.1 hz with rfl | hz
          · exact h5 _ rfl
          · exact h4 z hz he
        · intro c hc
          exact Int.le_trans (h5 _ rfl) (hb c hc)
    · have e : pickF now fl flows (p :: l) i b = pickF now fl flows l (i + 1) b := by
        show pickF now fl flows l (i + 1) _ = _; rw [if_neg g]
      have hb : ∀ c, b = some c → elB now flows p = true → c.due ≤ key fl flows p := by
        rintro c rfl hp
        have : ¬ better fl flows p (some c) = true := fun k => g ⟨hp, k⟩
        unfold better at this
        simp only [Bool.or_eq_true, Bool.and_eq_true, decide_eq_true_eq] at this
        omega
      have hn : b = none → elB now flows p = false := by
        rintro rfl
        rw [← Bool.not_eq_true]
        exact fun k => g ⟨k, rfl⟩
      rcases pickF_spec l (i + 1) b with ⟨h1, h2, h3⟩ | ⟨l1, q, l2, rfl, h2, h3, h4, h5⟩
      · refine .inl ⟨by rw [e, h1], ?_, ?_⟩
        · intro k q hq
          rcases List.mem_cons.1 hq with rfl | hq
          · exact hn k
          · exact h2 k q hq
        · intro c hc q hq he
          rcases List.mem_cons.1 hq with rfl | hq
          · exact hb c hc he
          · exact h3 c hc q hq he
      · refine .inr ⟨p :: l1, q, l2, rfl, h2, by rw [e, h3]; simp; omega, ?_, h5⟩
        intro z hz he
        rcases List.mem_cons.1 hz with rfl | hz
        · cases b with
          | none => rw [hn rfl] at he; cases he
          | some c => exact Int.le_trans (h5 c rfl) (hb c rfl he)
        · exact h4 z hz he
theorem first_none {x : Ln} {flows : Bool} (h : x.first flows = none) : ∀ q ∈ x.pk, elB x.now flows q = false := by
  unfold Ln.first at h
  rcases pickF_spec (now := x.now) (fl := x.fl) (flows := flows) x.pk 0 none with ⟨_, h2, _⟩ | ⟨l1, p, l2, _, _, h3, _⟩
  · exact h2 rfl
  · rw [h3] at h; cases h
theorem first_some {x : Ln} {flows : Bool} {b : Bst} (h : x.first flows = some b) : ∃ l1 p l2, x.pk = l1 ++ p :: l2 ∧ b.i = l1.length ∧ elB x.now flows p = true ∧ ∀ q ∈ x.pk, elB x.now flows q = true → key x.fl flows p ≤ key x.fl flows q := by
  unfold Ln.first at h
  rcases pickF_spec (now := x.now) (fl := x.fl) (flows := flows) x.pk 0 none with ⟨h1, _, _⟩ | ⟨l1, p, l2, e, h2, h3, h4, _⟩
  · rw [h1] at h; cases h
  · rw [h3] at h
    refine ⟨l1, p, l2, e, ?_, h2, h4⟩
    have := Option.some.inj h
    rw [← this]
    show 0 + l1.length = l1.length
    omega
end Go.Proofs.YtcnmajndackohaaGreatDoor
/-
  Plain: two buckets tell when a packet is ready, as the sums over all packets ahead of it do.
-/
namespace Go.Proofs.YtcnmajndackohaaGreatDoor
/-- A bucket. -/
structure Bk where
  level : Int
  most : Int
  rate : Int
/-- The tick of what does not come to pass. -/
def never : Int := 9223372036854775807
def Bk.fill (b : Bk) (t : Int) : Bk := { b with level := min b.most (b.level + b.rate * t) }
def Bk.wait (b : Bk) (need : Int) : Int := if need - b.level ≤ 0 then 0 else if b.rate = 0 then never else (need - b.level + b.rate - 1) / b.rate
def Bk.take (b : Bk) (need : Int) : Bk := { b with level := b.level - need }
/-- The gate of a flow. -/
structure Gt where
  peak : Bk
  burst : Bk
  last : Int
def Gt.new (f : Fl) : Gt := ⟨⟨12 * f.s, 12 * f.s, f.p⟩, ⟨12 * f.b, 12 * f.b, f.r⟩, 0⟩
def Gt.rest (g : Gt) (t : Int) : Gt := ⟨g.peak.fill t, g.burst.fill t, g.last + t⟩
def Gt.due (g : Gt) (need : Int) : Int := max (g.peak.wait need) (g.burst.wait need)
def Gt.took (g : Gt) (need : Int) : Gt := ⟨g.peak.take need, g.burst.take need, g.last⟩
def Gt.pass (g : Gt) (now size : Int) : Int × Gt :=
  if g.last = never then (never, g)
  else
    let a := g.rest (max 0 (now - g.last))
    let u := a.due (size * 12)
    if u = never then (never, { a with last := never })
    else
      let c := (a.rest u).took (size * 12)
      (c.last, c)
/-- Is there enough, behind all of flow k that came (the newest first), in a bucket, at the tick t? -/
def cB (k most rate t : Int) : List Sk → Int → Prop
  | [], _ => True
  | p :: l, x => if p.flow = k then x + 12 * p.size ≤ most + rate * (t - p.ready) ∧ cB k most rate t l (x + 12 * p.size) else cB k most rate t l x
theorem cB_later (k most rate t u : Int) : ∀ (l : List Sk) (x : Int), cB k most rate (t + u) l x ↔ cB k most rate t l (x - rate * u)
  | [], _ => Iff.rfl
  | p :: l, x => by
    unfold cB
    by_cases h : p.flow = k
    · rw [if_pos h, if_pos h, cB_later k most rate t u l]
      rw [show t + u - p.ready = (t - p.ready) + u by omega, Int.mul_add, show x - rate * u + 12 * p.size = x + 12 * p.size - rate * u by omega]
      constructor <;> rintro ⟨a, b⟩ <;> exact ⟨by omega, b⟩
    · rw [if_neg h, if_neg h]; exact cB_later k most rate t u l x
/-- What a bucket holds at the tick t. -/
def Bok (k most rate t : Int) (l : List Sk) (b : Bk) : Prop := b.most = most ∧ b.rate = rate ∧ 0 ≤ b.level ∧ ∀ x, x ≤ b.level ↔ x ≤ most ∧ cB k most rate t l x
theorem Bok.le {k most rate t : Int} {l : List Sk} {b : Bk} (h : Bok k most rate t l b) : b.level ≤ most := ((h.2.2.2 _).1 (Int.le_refl _)).1
theorem Bok.fill {k most rate t u : Int} {l : List Sk} {b : Bk} (h : Bok k most rate t l b) (hr : 0 ≤ rate) (hu : 0 ≤ u) : Bok k most rate (t + u) l (b.fill u) := by
  have hle := h.le
  obtain ⟨h1, h2, h3, h4⟩ := h
  have m : 0 ≤ rate * u := Int.mul_nonneg hr hu
  refine ⟨h1, h2, ?_, fun x => ?_⟩
  · show 0 ≤ min b.most (b.level + b.rate * u)
    rw [h1, h2]; omega
  · show x ≤ min b.most (b.level + b.rate * u) ↔ _
    rw [h1, h2, cB_later]
    have := h4 (x - rate * u)
    constructor
    · intro h
      exact ⟨by omega, ((this.1 (by omega))).2⟩
    · rintro ⟨a, b⟩
      have := this.2 ⟨by omega, b⟩
      omega
theorem Bok.take {k most rate t size : Int} {l : List Sk} {b : Bk} (h : Bok k most rate t l b) (hs : 0 ≤ size) (hn : size * 12 ≤ b.level) : Bok k most rate t (⟨k, size, t⟩ :: l) (b.take (size * 12)) := by
  obtain ⟨h1, h2, h3, h4⟩ := h
  refine ⟨h1, h2, ?_, fun x => ?_⟩
  · show 0 ≤ b.level - size * 12
    omega
  · show x ≤ b.level - size * 12 ↔ _
    have := h4 (x + 12 * size)
    simp only [cB, if_true]
    rw [show t - t = 0 by omega, Int.mul_zero]
    constructor
    · intro h
      have := this.1 (by omega)
      exact ⟨by omega, by omega, this.2⟩
    · rintro ⟨a, b, c⟩
      have := this.2 ⟨by omega, c⟩
      omega
theorem Bok.other {k most rate t : Int} {l : List Sk} {b : Bk} (h : Bok k most rate t l b) {p : Sk} (hp : p.flow ≠ k) : Bok k most rate t (p :: l) b := by
  obtain ⟨h1, h2, h3, h4⟩ := h
  refine ⟨h1, h2, h3, fun x => ?_⟩
  rw [h4 x]
  have e : cB k most rate t (p :: l) x = cB k most rate t l x := by
    show (if p.flow = k then _ else _) = _
    rw [if_neg hp]
  rw [e]
/-- Both buckets have enough just if the sums allow it. -/
theorem confL_iff {f : Fl} {k r : Int} : ∀ {l : List Sk} {sum : Int}, (∀ x ∈ l, x.flow = k → 0 ≤ x.ready ∧ x.ready ≤ r) →
    (confL f k r l sum = true ↔ cB k (12 * f.s) f.p r l (12 * sum) ∧ cB k (12 * f.b) f.r r l (12 * sum))
  | [], _, _ => by simp [confL, cB]
  | p :: l, sum, h => by
    have ih := fun s => confL_iff (f := f) (k := k) (r := r) (l := l) (sum := s) fun x hx => h x (List.mem_cons_of_mem _ hx)
    unfold confL cB
    by_cases hk : p.flow = k
    · rw [if_pos hk, if_pos hk, if_pos hk]
      obtain ⟨h0, h1⟩ := h p (List.mem_cons_self ..) hk
      simp only [Bool.and_eq_true, decide_eq_true_eq]
      rw [ih, Int.mul_add]
      unfold Fl.am
      rw [allow_pos _ _ _ _ _ (show 0 ≤ r - p.ready by omega)]
      generalize f.p * (r - p.ready) = A
      generalize f.r * (r - p.ready) = B
      constructor
      · rintro ⟨⟨⟨_, _⟩, c⟩, d, e⟩
        exact ⟨⟨by omega, d⟩, by omega, e⟩
      · rintro ⟨⟨a, d⟩, b, e⟩
        exact ⟨⟨⟨h0, h1⟩, by omega⟩, d, e⟩
    · rw [if_neg hk, if_neg hk, if_neg hk]; exact ih sum
theorem confL_dead {f : Fl} {k r : Int} : ∀ {l : List Sk} {sum : Int}, (∃ x ∈ l, x.flow = k ∧ x.ready < 0) → confL f k r l sum = false := by
  intro l sum ⟨x, hx, hk, hr⟩
  rw [← Bool.not_eq_true]
  intro h
  have := confL_ready h x hx hk
  omega
theorem seekR_at (c : Int → Bool) : ∀ (n : Nat) (r : Int) (u : Nat), u < n → (∀ v : Nat, v < u → c (r + v) = false) → c (r + u) = true → seekR c n r = r + u
  | 0, _, _, h, _, _ => by omega
  | n + 1, r, 0, _, _, h => by
    unfold seekR
    rw [show r + ((0 : Nat) : Int) = r by simp] at h ⊢
    rw [if_pos h]
  | n + 1, r, u + 1, hu, h, ht => by
    unfold seekR
    have h0 := h 0 (by omega)
    rw [show r + ((0 : Nat) : Int) = r by simp] at h0
    rw [show r + ((u + 1 : Nat) : Int) = r + 1 + u by omega] at ht
    have := seekR_at c n (r + 1) u (by omega) (fun v hv => by
      have := h (v + 1) (by omega)
      rwa [show r + ((v + 1 : Nat) : Int) = r + 1 + v by omega] at this) ht
    rw [h0, if_neg (by decide), this]
    omega
theorem seekR_no (c : Int → Bool) : ∀ (n : Nat) (r : Int), (∀ v : Nat, v < n → c (r + v) = false) → seekR c n r = -1
  | 0, _, _ => rfl
  | n + 1, r, h => by
    unfold seekR
    have h0 := h 0 (by omega)
    rw [show r + ((0 : Nat) : Int) = r by simp] at h0
    rw [h0, if_neg (by decide)]
    refine seekR_no c n (r + 1) fun v hv => ?_
    have := h (v + 1) (by omega)
    rwa [show r + ((v + 1 : Nat) : Int) = r + 1 + v by omega] at this
/-- What a gate is behind the packets that came (the newest first). -/
structure Gok (f : Fl) (k : Int) (pk : List Pk) (g : Gt) : Prop where
  peak : g.last ≠ never → Bok k (12 * f.s) f.p g.last (pk.map Pk.sk).reverse g.peak
  burst : g.last ≠ never → Bok k (12 * f.b) f.r g.last (pk.map Pk.sk).reverse g.burst
  lat : g.last ≠ never → 0 ≤ g.last ∧ ∀ now, 0 ≤ now → latest k now pk = max now g.last
  rdy : g.last ≠ never → ∀ p ∈ pk, p.flow = k → 0 ≤ p.ready ∧ p.ready ≤ g.last
  dead : g.last = never → ∃ p ∈ pk, p.flow = k ∧ p.ready < 0
/-- How the program tells a tick: -1 is never. -/
def toTick (r : Int) : Int := if r < 0 then never else r
theorem Bk.wait_spec {b : Bk} {need : Int} (hn : 0 ≤ need) (h96 : need ≤ 96) (hl : 0 ≤ b.level) (hr : 0 ≤ b.rate) :
    (b.wait need = never ∧ b.rate = 0 ∧ b.level < need) ∨ (0 ≤ b.wait need ∧ b.wait need ≤ 96 ∧ ∀ u, 0 ≤ u → (need ≤ b.level + b.rate * u ↔ b.wait need ≤ u)) := by
  unfold Bk.wait
  by_cases h : need - b.level ≤ 0
  · right
    rw [if_pos h]
    refine ⟨by omega, by omega, fun u hu => ?_⟩
    have := Int.mul_nonneg hr hu
    omega
  · rw [if_neg h]
    by_cases hz : b.rate = 0
    · left; rw [if_pos hz]; exact ⟨rfl, hz, by omega⟩
    · right
      rw [if_neg hz]
      have hp : 0 < b.rate := by omega
      generalize hS : need - b.level = S at *
      have e : ∀ u, S + b.rate - 1 < (u + 1) * b.rate ↔ (S + b.rate - 1) / b.rate < u + 1 := fun u => by rw [Int.ediv_lt_iff_lt_mul hp]
      refine ⟨?_, ?_, fun u hu => ?_⟩
      · exact Int.ediv_nonneg (by omega) (by omega)
      · have : (S + b.rate - 1) / b.rate < 96 + 1 := by
          rw [Int.ediv_lt_iff_lt_mul hp]
          have := Int.mul_le_mul_of_nonneg_left (show (1 : Int) ≤ b.rate by omega) (show (0 : Int) ≤ 96 by decide)
          omega
        omega
      · have := e u
        rw [Int.add_mul, Int.one_mul, Int.mul_comm u] at this
        constructor
        · intro h; have := this.1 (by omega); omega
        · intro h; have := this.2 (by omega); omega
theorem Gok.new (f : Fl) (hf : f.may) (k : Int) {pk : List Pk} (h : ∀ p ∈ pk, p.flow ≠ k) : Gok f k pk (Gt.new f) := by
  have hb : ∀ (most rate t : Int) (l : List Sk) (x : Int), (∀ p ∈ l, p.flow ≠ k) → cB k most rate t l x := by
    intro most rate t l
    induction l with
    | nil => intro x _; exact trivial
    | cons p l ih =>
      intro x hl
      unfold cB
      rw [if_neg (hl p (List.mem_cons_self ..))]
      exact ih x fun q hq => hl q (List.mem_cons_of_mem _ hq)
  have hl : ∀ p ∈ (pk.map Pk.sk).reverse, p.flow ≠ k := by
    intro p hp
    rw [List.mem_reverse, List.mem_map] at hp
    obtain ⟨q, hq, rfl⟩ := hp
    exact h q hq
  obtain ⟨s0, s1, b0, b1, r0, p0, p1, d0, d1⟩ := hf
  refine ⟨fun _ => ⟨rfl, rfl, ?_, fun x => ⟨fun hx => ⟨hx, hb _ _ _ _ _ hl⟩, fun hx => hx.1⟩⟩, fun _ => ⟨rfl, rfl, ?_, fun x => ⟨fun hx => ⟨hx, hb _ _ _ _ _ hl⟩, fun hx => hx.1⟩⟩, fun _ => ⟨Int.le_refl _, fun now hn => ?_⟩, fun _ p hp hk => absurd hk (h p hp), fun e => ?_⟩
  · show 0 ≤ 12 * f.s; omega
  · show 0 ≤ 12 * f.b; omega
  · have : ∀ (l : List Pk) (m : Int), (∀ p ∈ l, p.flow ≠ k) → latest k m l = m := by
      intro l
      induction l with
      | nil => intro m _; rfl
      | cons p l ih =>
        intro m hl
        show latest k (if p.flow = k ∧ m < p.ready then p.ready else m) l = m
        rw [if_neg (fun c => hl p (List.mem_cons_self ..) c.1)]
        exact ih m fun q hq => hl q (List.mem_cons_of_mem _ hq)
    rw [this pk now h]
    show now = max now 0
    omega
  · have e' : (0 : Int) = never := e
    unfold never at e'
    omega
theorem latest_snoc (k now : Int) (pk : List Pk) (p : Pk) : latest k now (pk ++ [p]) = if p.flow = k ∧ latest k now pk < p.ready then p.ready else latest k now pk := by
  unfold latest; rw [List.foldl_append]; rfl
theorem Gok.other {f : Fl} {k : Int} {pk : List Pk} {g : Gt} (h : Gok f k pk g) {p : Pk} (hp : p.flow ≠ k) : Gok f k (pk ++ [p]) g := by
  have e : ((pk ++ [p]).map Pk.sk).reverse = p.sk :: (pk.map Pk.sk).reverse := by simp
  refine ⟨fun hn => ?_, fun hn => ?_, fun hn => ⟨(h.lat hn).1, fun now h0 => ?_⟩, fun hn q hq hk => ?_, fun hn => ?_⟩
  · rw [e]; exact (h.peak hn).other hp
  · rw [e]; exact (h.burst hn).other hp
  · rw [latest_snoc, if_neg (fun c => hp c.1)]; exact (h.lat hn).2 now h0
  · rcases List.mem_append.1 hq with hq | hq
    · exact h.rdy hn q hq hk
    · rw [List.mem_singleton.1 hq] at hk; exact absurd hk hp
  · obtain ⟨q, hq, a⟩ := h.dead hn
    exact ⟨q, List.mem_append_left _ hq, a⟩
/-- It hangs on what does not change of the packets alone. -/
theorem latest_sk (k : Int) : ∀ (l m : List Pk) (now : Int), l.map Pk.sk = m.map Pk.sk → latest k now l = latest k now m
  | [], [], _, _ => rfl
  | [], _ :: _, _, h => by cases h
  | _ :: _, [], _, h => by cases h
  | p :: l, q :: m, now, h => by
    simp only [List.map_cons, List.cons.injEq] at h
    have a : p.flow = q.flow := congrArg Sk.flow h.1
    have b : p.ready = q.ready := congrArg Sk.ready h.1
    show latest k (if p.flow = k ∧ now < p.ready then p.ready else now) l = latest k (if q.flow = k ∧ now < q.ready then q.ready else now) m
    rw [a, b]
    exact latest_sk k l m _ h.2
theorem Gok.same {f : Fl} {k : Int} {pk pk' : List Pk} {g : Gt} (h : Gok f k pk g) (e : pk'.map Pk.sk = pk.map Pk.sk) : Gok f k pk' g := by
  have hm : ∀ p ∈ pk', ∃ q ∈ pk, q.flow = p.flow ∧ q.ready = p.ready := fun p hp => by
    have : p.sk ∈ pk.map Pk.sk := by rw [← e]; exact List.mem_map.2 ⟨p, hp, rfl⟩
    obtain ⟨q, hq, eq⟩ := List.mem_map.1 this
    exact ⟨q, hq, congrArg Sk.flow eq, congrArg Sk.ready eq⟩
  have hm' : ∀ p ∈ pk, ∃ q ∈ pk', q.flow = p.flow ∧ q.ready = p.ready := fun p hp => by
    have : p.sk ∈ pk'.map Pk.sk := by rw [e]; exact List.mem_map.2 ⟨p, hp, rfl⟩
    obtain ⟨q, hq, eq⟩ := List.mem_map.1 this
    exact ⟨q, hq, congrArg Sk.flow eq, congrArg Sk.ready eq⟩
  refine ⟨fun hn => by rw [e]; exact h.peak hn, fun hn => by rw [e]; exact h.burst hn, fun hn => ⟨(h.lat hn).1, fun now h0 => by rw [latest_sk k _ _ now e]; exact (h.lat hn).2 now h0⟩, fun hn p hp hk => ?_, fun hn => ?_⟩
  · obtain ⟨q, hq, a, b⟩ := hm p hp
    rw [← b]; exact h.rdy hn q hq (a.trans hk)
  · obtain ⟨p, hp, a, b⟩ := h.dead hn
    obtain ⟨q, hq, a', b'⟩ := hm' p hp
    exact ⟨q, hq, a'.trans a, by omega⟩
/-- The gate tells the tick at which the document's packet is ready. -/
theorem Gok.pass {f : Fl} (hf : f.may) {k : Int} {pk : List Pk} {g : Gt} (h : Gok f k pk g) {now size : Int} (h0 : 0 ≤ now) (hnow : now < 4000000000000000000) (hl : g.last ≠ never → g.last < 4000000000000000000) (s1 : 1 ≤ size) (s2 : size ≤ f.s) {r : Int}
    (hr : r = seekR (conf f k size (pk.map Pk.sk).reverse) 401 (latest k now pk)) {p : Pk} (hp : p.sk = ⟨k, size, r⟩) :
    (g.pass now size).1 = toTick r ∧ Gok f k (pk ++ [p]) (g.pass now size).2 ∧ (0 ≤ r → r ≤ max now g.last + 96 ∧ (g.pass now size).2.last = r ∧ now ≤ r ∧ g.last ≠ never ∧ g.last ≤ r) ∧ (r < 0 → r = -1 ∧ (g.pass now size).2.last = never) := by
  have hpf : p.flow = k := congrArg Sk.flow hp
  have hpr : p.ready = r := congrArg Sk.ready hp
  have e : ((pk ++ [p]).map Pk.sk).reverse = ⟨k, size, r⟩ :: (pk.map Pk.sk).reverse := by simp [hp]
  obtain ⟨ms0, ms1, mb0, mb1, mr0, mp0, mp1, md0, md1⟩ := id hf
  by_cases hd : g.last = never
  · have hdead := h.dead hd
    have hm1 : r = -1 := by
      rw [hr]
      refine seekR_no _ _ _ fun v _ => ?_
      obtain ⟨q, hq, a, b⟩ := hdead
      unfold conf
      rw [confL_dead ⟨q.sk, by rw [List.mem_reverse, List.mem_map]; exact ⟨q, hq, rfl⟩, a, b⟩, Bool.and_false]
    have ep : g.pass now size = (never, g) := by unfold Gt.pass; rw [if_pos hd]
    rw [ep]
    refine ⟨by rw [hm1]; rfl, ⟨fun hn => absurd hd hn, fun hn => absurd hd hn, fun hn => absurd hd hn, fun hn => absurd hd hn, fun _ => ?_⟩, fun c => by omega, fun _ => ⟨hm1, hd⟩⟩
    obtain ⟨q, hq, a⟩ := hdead
    exact ⟨q, List.mem_append_left _ hq, a⟩
  · obtain ⟨hl0, hlat⟩ := h.lat hd
    have hll := hl hd
    have hrd := h.rdy hd
    generalize hu0 : max 0 (now - g.last) = u0
    have hu0' : 0 ≤ u0 := by omega
    have hfrom : latest k now pk = g.last + u0 := by rw [hlat now h0]; omega
    have hP := (h.peak hd).fill (u := u0) (by omega) hu0'
    have hB := (h.burst hd).fill (u := u0) (by omega) hu0'
    have hwP := Bk.wait_spec (b := g.peak.fill u0) (need := size * 12) (by omega) (by omega) hP.2.2.1 (by rw [hP.2.1]; omega)
    have hwB := Bk.wait_spec (b := g.burst.fill u0) (need := size * 12) (by omega) (by omega) hB.2.2.1 (by rw [hB.2.1]; omega)
    have hc : ∀ v : Nat, conf f k size (pk.map Pk.sk).reverse (g.last + u0 + v) = true ↔ size * 12 ≤ (g.peak.fill u0).level + f.p * v ∧ size * 12 ≤ (g.burst.fill u0).level + f.r * v := by
      intro v
      have hP' := (hP.fill (u := (v : Int)) (by omega) (by omega)).2.2.2 (12 * size)
      have hB' := (hB.fill (u := (v : Int)) (by omega) (by omega)).2.2.2 (12 * size)
      have hPm : ((g.peak.fill u0).fill v).level = min (12 * f.s) ((g.peak.fill u0).level + f.p * v) := by
        show min (g.peak.fill u0).most ((g.peak.fill u0).level + (g.peak.fill u0).rate * v) = _
        rw [hP.1, hP.2.1]
      have hBm : ((g.burst.fill u0).fill v).level = min (12 * f.b) ((g.burst.fill u0).level + f.r * v) := by
        show min (g.burst.fill u0).most ((g.burst.fill u0).level + (g.burst.fill u0).rate * v) = _
        rw [hB.1, hB.2.1]
      rw [hPm] at hP'
      rw [hBm] at hB'
      have hcf := confL_iff (f := f) (k := k) (r := g.last + u0 + v) (l := (pk.map Pk.sk).reverse) (sum := size) (by
        intro x hx hk
        rw [List.mem_reverse, List.mem_map] at hx
        obtain ⟨q, hq, rfl⟩ := hx
        have := hrd q hq hk
        exact ⟨this.1, Int.le_trans this.2 (by omega)⟩)
      unfold conf
      rw [Bool.and_eq_true, decide_eq_true_eq, hcf, am_zero hf]
      constructor
      · rintro ⟨_, a, b⟩
        have := hP'.2 ⟨by omega, a⟩
        have := hB'.2 ⟨by omega, b⟩
        omega
      · rintro ⟨a, b⟩
        exact ⟨s2, (hP'.1 (by omega)).2, (hB'.1 (by omega)).2⟩
    have ep : g.pass now size = if (g.rest u0).due (size * 12) = never then (never, { g.rest u0 with last := never }) else ((((g.rest u0).rest ((g.rest u0).due (size * 12))).took (size * 12)).last, (((g.rest u0).rest ((g.rest u0).due (size * 12))).took (size * 12))) := by
      unfold Gt.pass; rw [if_neg hd, hu0]
    have hdue : (g.rest u0).due (size * 12) = max ((g.peak.fill u0).wait (size * 12)) ((g.burst.fill u0).wait (size * 12)) := rfl
    rw [ep, hdue]
    clear ep hdue
    generalize hx : (g.peak.fill u0).wait (size * 12) = X at *
    generalize hy : (g.burst.fill u0).wait (size * 12) = Y at *
    have dead : X = never ∨ Y = never → r = -1 := by
      intro hxy
      rw [hr, hfrom]
      refine seekR_no _ _ _ fun v _ => ?_
      rw [← Bool.not_eq_true, hc v]
      rintro ⟨a, b⟩
      rcases hwP with ⟨_, hz, hlt⟩ | ⟨w0, w1, _⟩
      · rw [hP.2.1] at hz
        rw [hz] at a; omega
      · rcases hwB with ⟨_, hz, hlt⟩ | ⟨w3, w4, _⟩
        · rw [hB.2.1] at hz
          rw [hz] at b; omega
        · unfold never at hxy; omega
    by_cases hxy : X = never ∨ Y = never
    · have hm1 := dead hxy
      have hmx : max X Y = never := by
        rcases hwP with ⟨a, _⟩ | ⟨w0, w1, _⟩ <;> rcases hwB with ⟨b, _⟩ | ⟨w3, w4, _⟩ <;> unfold never at * <;> omega
      rw [if_pos hmx]
      refine ⟨by rw [hm1]; rfl, ⟨fun hn => absurd rfl hn, fun hn => absurd rfl hn, fun hn => absurd rfl hn, fun hn => absurd rfl hn, fun _ => ⟨p, List.mem_append_right _ (List.mem_singleton.2 rfl), hpf, by rw [hpr]; omega⟩⟩, fun c => by omega, fun _ => ⟨hm1, rfl⟩⟩
    · rcases hwP with ⟨a, _⟩ | ⟨w0, w1, wp⟩
      · exact absurd (.inl a) hxy
      rcases hwB with ⟨b, _⟩ | ⟨w3, w4, wb⟩
      · exact absurd (.inr b) hxy
      rw [hP.2.1] at wp
      rw [hB.2.1] at wb
      generalize hu : max X Y = u at *
      have hun : u ≠ never := by unfold never; omega
      rw [if_neg hun]
      have hru : r = g.last + u0 + u := by
        rw [hr, hfrom, show u = ((u.toNat : Nat) : Int) by omega]
        refine seekR_at _ _ _ _ (by omega) (fun v hv => ?_) ?_
        · rw [← Bool.not_eq_true, hc v, wp v (by omega), wb v (by omega)]; omega
        · rw [hc, wp _ (by omega), wb _ (by omega)]; omega
      have hlast : (((g.rest u0).rest u).took (size * 12)).last = g.last + u0 + u := rfl
      have hPu := hP.fill (u := u) (by omega) (by omega)
      have hBu := hB.fill (u := u) (by omega) (by omega)
      have hPn : size * 12 ≤ ((g.peak.fill u0).fill u).level := by
        show _ ≤ min (g.peak.fill u0).most ((g.peak.fill u0).level + (g.peak.fill u0).rate * u)
        rw [hP.1, hP.2.1]
        have := (wp u (by omega)).2 (by omega)
        omega
      have hBn : size * 12 ≤ ((g.burst.fill u0).fill u).level := by
        show _ ≤ min (g.burst.fill u0).most ((g.burst.fill u0).level + (g.burst.fill u0).rate * u)
        rw [hB.1, hB.2.1]
        have := (wb u (by omega)).2 (by omega)
        omega
      have hpos : 0 ≤ r := by omega
      refine ⟨?_, ⟨fun _ => ?_, fun _ => ?_, fun _ => ⟨by rw [hlast]; omega, fun now' h0' => ?_⟩, fun _ q hq hk => ?_, fun hn => ?_⟩, fun _ => ⟨?_, ?_, ?_, hd, ?_⟩, fun c => by omega⟩
      · show g.last + u0 + u = toTick r
        unfold toTick; rw [if_neg (by omega)]; omega
      · rw [e, hlast, ← hru]
        rw [← hru] at hPu
        exact hPu.take (by omega) hPn
      · rw [e, hlast, ← hru]
        rw [← hru] at hBu
        exact hBu.take (by omega) hBn
      · rw [latest_snoc, hlat now' h0', hpf, hpr, hlast]
        by_cases hc : max now' g.last < r
        · rw [if_pos ⟨rfl, hc⟩]; omega
        · rw [if_neg (fun c => hc c.2)]; omega
      · rw [hlast]
        rcases List.mem_append.1 hq with hq | hq
        · have := hrd q hq hk; omega
        · rw [List.mem_singleton.1 hq, hpr]; omega
      · rw [hlast] at hn; unfold never at hn; omega
      · omega
      · rw [hlast]; omega
      · omega
      · omega
end Go.Proofs.YtcnmajndackohaaGreatDoor
