import Derived.Test.YtcnmajndackohaaGreatDoorMg20
import Derived.Test.YtcnmajndackohaaGreatDoorMg05
import Derived.Deep.DrawnRows
/-
  What returned does: it finds what was lent as it was, and writes over it.
-/
namespace Go.Proofs.YtcnmajndackohaaGreatDoor
open Go.RowKit
attribute [local go_sem ↓] Go.wp_at_zero Go.wp_at_succ
def fill : Fl := ⟨1, 12, 30, 12, 1⟩
/-- The row, behind k rounds. -/
def doneTo (l : List Fl) (k : Nat) : List Fl := List.replicate k fill ++ (l ++ spare 8).drop k
theorem doneTo_len (l : List Fl) (k : Nat) (h : k ≤ l.length + 8) : (doneTo l k).length = l.length + 8 := by unfold doneTo; simp [spare_len]; omega
theorem doneTo_set (l : List Fl) (k : Nat) (h : k < l.length + 8) : (doneTo l k).set k fill = doneTo l (k + 1) := by
  unfold doneTo
  have hl : (l ++ spare 8).length = l.length + 8 := by simp [spare_len]
  rw [List.set_append_right _ _ (by simp), List.length_replicate, Nat.sub_self, List.drop_eq_getElem_cons (by omega), List.set_cons_zero, List.replicate_succ', List.append_assoc]
  rfl
theorem doneTo_at (l : List Fl) (k : Nat) (h : k < (l ++ spare 8).length) (h' : k < (doneTo l k).length) : (doneTo l k)[k] = (l ++ spare 8)[k] := by
  have e : (doneTo l k)[k]? = some ((l ++ spare 8)[k]) := by
    unfold doneTo
    rw [List.getElem?_append_right (by rw [List.length_replicate]; exact Nat.le_refl _), List.length_replicate, Nat.sub_self, List.getElem?_drop, Nat.add_zero]
    exact List.getElem?_eq_getElem h
  rw [List.getElem?_eq_getElem h'] at e
  exact Option.some.inj e
theorem at_low (l : List Fl) (k : Nat) (h : k < l.length) (h' : k < (l ++ spare 8).length) : (l ++ spare 8)[k] = l[k] := List.getElem_append_left h
theorem at_high (l : List Fl) (k : Nat) (h : l.length ≤ k) (h' : k < (l ++ spare 8).length) : (l ++ spare 8)[k] = ⟨77, 0, 0, 0, (k : Int) - (l.length : Int)⟩ := by
  rw [List.getElem_append_right h]
  unfold spare
  rw [List.getElem_map, List.getElem_range]
  congr 1
  omega
theorem held2 {W : World} {g k X : Nat} {c0 c1 c2 c3 c4 d0 d1 d2 d3 d4 : Value}
    (h0 : W.cell? ⟨g, k * 5, none⟩ = some c0) (h1 : W.cell? ⟨g, k * 5 + 1, none⟩ = some c1) (h2 : W.cell? ⟨g, k * 5 + 2, none⟩ = some c2) (h3 : W.cell? ⟨g, k * 5 + 3, none⟩ = some c3) (h4 : W.cell? ⟨g, k * 5 + 4, none⟩ = some c4)
    (e0 : W.cell? ⟨X, 0, none⟩ = some d0) (e1 : W.cell? ⟨X, 1, none⟩ = some d1) (e2 : W.cell? ⟨X, 2, none⟩ = some d2) (e3 : W.cell? ⟨X, 3, none⟩ = some d3) (e4 : W.cell? ⟨X, 4, none⟩ = some d4) :
    W.drew.cell? ⟨g, k * 5, none⟩ = some c0 ∧ W.drew.cell? ⟨g, k * 5 + 1, none⟩ = some c1 ∧ W.drew.cell? ⟨g, k * 5 + 2, none⟩ = some c2 ∧ W.drew.cell? ⟨g, k * 5 + 3, none⟩ = some c3 ∧ W.drew.cell? ⟨g, k * 5 + 4, none⟩ = some c4 ∧
    W.drew.cell? ⟨X, 0, none⟩ = some d0 ∧ W.drew.cell? ⟨X, 1, none⟩ = some d1 ∧ W.drew.cell? ⟨X, 2, none⟩ = some d2 ∧ W.drew.cell? ⟨X, 3, none⟩ = some d3 ∧ W.drew.cell? ⟨X, 4, none⟩ = some d4 := ⟨h0, h1, h2, h3, h4, e0, e1, e2, e3, e4⟩
theorem only_store {w0 w : World} {g k : Nat} {x : Fl} (h : Only (fun i => i = g) w0 w) :
    Only (fun i => i = g) w0 (((((w.setCell ⟨g, k * 5, none⟩ (.int .i64 x.s)).setCell ⟨g, k * 5 + 1, none⟩ (.int .i64 x.p)).setCell ⟨g, k * 5 + 2, none⟩ (.int .i64 x.b)).setCell ⟨g, k * 5 + 3, none⟩ (.int .i64 x.r)).setCell ⟨g, k * 5 + 4, none⟩ (.int .i64 x.d)) :=
  ((((h.setCell (.inl rfl)).setCell (.inl rfl)).setCell (.inl rfl)).setCell (.inl rfl)).setCell (.inl rfl)
set_option maxRecDepth 100000 in
set_option maxHeartbeats 8000000 in
theorem returned_core (w0 : World) (g c2 : Nat) (a : Option Addr) (c : Nat) (l : List Fl) (w : World) (hA : 0 < l.length → ∃ b o, a = some ⟨b, o, none⟩ ∧ Lies w0 b o l) (hB : w0.heap.size ≤ g) (hbel : Below w0.heap.size w0 w) (hblk : Blk w g (l ++ spare 8)) (hl : l.length * 40 ≤ 140737488355328) :
    Calls Tryz.prog 34 #[.slice (some ⟨g, 0, none⟩) (l.length + 8) c2, .slice a l.length c] w fun e w' => e = .returned (.bool true) ∧ Below w0.heap.size w0 w' ∧ Only (fun i => i = g) w w' := by
  have HA := hide hA
  have HB := hide hB
  have HBel := hide hbel
  have HBlk := hide hblk
  clear hA hB hbel hblk
  generalize hn : l.length = n at *
  have HN := hide hn
  have hn1 : (n : Int) ≤ 140737488355328 := by omega
  clear hn hl
  go_enter Tryz.func34, Tryz.ntmps34
  go_wp2_with fail
  go_loopw [5, 6] (fun q i wr => ∃ k : Nat, k ≤ n + 8 ∧ i = .int .i64 k ∧ q = .bool true ∧ Blk wr g (doneTo l k) ∧ Below w0.heap.size w0 wr ∧ Only (fun i => i = g) w wr) (fun _ i _ => n + 8 - (intOf i).toNat)
  case atStart => exact ⟨0, Nat.zero_le _, rfl, rfl, unhide HBlk, unhide HBel, Only.refl _ _⟩
  case round =>
    obtain ⟨k, hk, rfl, rfl, hblk, hbel, hon⟩ := hrel
    have HOn := hide hon
    clear hon
    by_cases hlt : k < n + 8
    · have hll : k < (doneTo l k).length := by rw [doneTo_len l k (by rw [unhide HN]; exact hk), unhide HN]; exact hlt
      have hfull : k < (l ++ spare 8).length := by simp [spare_len, unhide HN]; omega
      have HBk := hide hblk
      have HBl := hide hbel
      have q0 := hblk.lies.c0 k hll
      have q1 := hblk.lies.c1 k hll
      have q2 := hblk.lies.c2 k hll
      have q3 := hblk.lies.c3 k hll
      have q4 := hblk.lies.c4 k hll
      rw [Nat.zero_add] at q0 q1 q2 q3 q4
      have z := hblk.frozen
      have q5 := hblk.lt
      have hi0 : (0 : Int) ≤ (k : Int) := Int.natCast_nonneg _
      have hi1 : (k : Int) < (n : Int) + 8 := by omega
      have e1 : IntKind.i64.wrap ((k : Int) - (n : Int)) = (k : Int) - (n : Int) := by go_arith
      have HSet := hide (doneTo_set l k (by rw [unhide HN]; exact hlt))
      rw [doneTo_at l k hfull hll] at q0 q1 q2 q3 q4
      by_cases hkn : k < n
      · have hkl : k < l.length := by rw [unhide HN]; exact hkn
        obtain ⟨b, o, rfl, hL0⟩ := unhide HA (by omega)
        have hL := hL0.blk
        have hc := fun (oo : Nat) => hbel.cell (p := ⟨b, oo, none⟩) hL
        have r0 := (hc _).trans (hL0.c0 k hkl)
        have r1 := (hc _).trans (hL0.c1 k hkl)
        have r2 := (hc _).trans (hL0.c2 k hkl)
        have r3 := (hc _).trans (hL0.c3 k hkl)
        have r4 := (hc _).trans (hL0.c4 k hkl)
        have r5 : b < wr.heap.size := by have := hbel.size; omega
        rw [at_low l k hkl hfull] at q0 q1 q2 q3 q4
        generalize l[k] = f at *
        clear hblk hbel hL0 hc hL
        go_wp2_with fail
        have t0 := (World.cell?_alloc_past (w := wr) (.cells #[.int .i64 f.s, .int .i64 f.p, .int .i64 f.b, .int .i64 f.r, .int .i64 f.d] 35) g (k * 5) q5).trans q0
        have t1 := (World.cell?_alloc_past (w := wr) (.cells #[.int .i64 f.s, .int .i64 f.p, .int .i64 f.b, .int .i64 f.r, .int .i64 f.d] 35) g (k * 5 + 1) q5).trans q1
        have t2 := (World.cell?_alloc_past (w := wr) (.cells #[.int .i64 f.s, .int .i64 f.p, .int .i64 f.b, .int .i64 f.r, .int .i64 f.d] 35) g (k * 5 + 2) q5).trans q2
        have t3 := (World.cell?_alloc_past (w := wr) (.cells #[.int .i64 f.s, .int .i64 f.p, .int .i64 f.b, .int .i64 f.r, .int .i64 f.d] 35) g (k * 5 + 3) q5).trans q3
        have t4 := (World.cell?_alloc_past (w := wr) (.cells #[.int .i64 f.s, .int .i64 f.p, .int .i64 f.b, .int .i64 f.r, .int .i64 f.d] 35) g (k * 5 + 4) q5).trans q4
        have x0 := World.cell?_alloc_new wr #[.int .i64 f.s, .int .i64 f.p, .int .i64 f.b, .int .i64 f.r, .int .i64 f.d] 35 0
        have x1 := World.cell?_alloc_new wr #[.int .i64 f.s, .int .i64 f.p, .int .i64 f.b, .int .i64 f.r, .int .i64 f.d] 35 1
        have x2 := World.cell?_alloc_new wr #[.int .i64 f.s, .int .i64 f.p, .int .i64 f.b, .int .i64 f.r, .int .i64 f.d] 35 2
        have x3 := World.cell?_alloc_new wr #[.int .i64 f.s, .int .i64 f.p, .int .i64 f.b, .int .i64 f.r, .int .i64 f.d] 35 3
        have x4 := World.cell?_alloc_new wr #[.int .i64 f.s, .int .i64 f.p, .int .i64 f.b, .int .i64 f.r, .int .i64 f.d] 35 4
        have HBk2 := hide ((unhide HBk).below (bel_one (.cells #[.int .i64 f.s, .int .i64 f.p, .int .i64 f.b, .int .i64 f.r, .int .i64 f.d] 35)))
        have HBl2 := hide (bel_then (unhide HBl) (bel_one (.cells #[.int .i64 f.s, .int .i64 f.p, .int .i64 f.b, .int .i64 f.r, .int .i64 f.d] 35)))
        have HOn2 := hide ((unhide HOn).alloc (.cells #[.int .i64 f.s, .int .i64 f.p, .int .i64 f.b, .int .i64 f.r, .int .i64 f.d] 35))
        have z2 := (unhide HBk2).frozen
        have q6 := (unhide HBk2).lt
        generalize wr.alloc (.cells #[.int .i64 f.s, .int .i64 f.p, .int .i64 f.b, .int .i64 f.r, .int .i64 f.d] 35) = W at *
        generalize wr.heap.size = X at *
        clear q0 q1 q2 q3 q4 q5 z HBk HBl HOn
        go_region_held3 (fun w' => w'.cell? ⟨g, k * 5, none⟩ = some (.int .i64 f.s) ∧ w'.cell? ⟨g, k * 5 + 1, none⟩ = some (.int .i64 f.p) ∧ w'.cell? ⟨g, k * 5 + 2, none⟩ = some (.int .i64 f.b) ∧ w'.cell? ⟨g, k * 5 + 3, none⟩ = some (.int .i64 f.r) ∧ w'.cell? ⟨g, k * 5 + 4, none⟩ = some (.int .i64 f.d) ∧ w'.cell? ⟨X, 0, none⟩ = some (.int .i64 f.s) ∧ w'.cell? ⟨X, 1, none⟩ = some (.int .i64 f.p) ∧ w'.cell? ⟨X, 2, none⟩ = some (.int .i64 f.b) ∧ w'.cell? ⟨X, 3, none⟩ = some (.int .i64 f.r) ∧ w'.cell? ⟨X, 4, none⟩ = some (.int .i64 f.d))
          (first | exact held2 t0 t1 t2 t3 t4 x0 x1 x2 x3 x4 | assumption)
          (fail)
        go_wp2_with fail
        have hst := (unhide HBk2).store (x := fill) hll
        rw [unhide HSet] at hst
        have hbs := below_store (k := k) (x := fill) (unhide HBl2) (unhide HB)
        exact ⟨⟨k + 1, by omega, by go_num, rfl, hst, hbs.drew, (only_store (k := k) (x := fill) (unhide HOn2)).drew⟩, by simp [intOf]; omega⟩
      · rw [at_high l k (by rw [unhide HN]; omega) hfull, unhide HN] at q0 q1 q2 q3 q4
        clear hblk hbel
        go_wp2_with fail
        have t0 := (World.cell?_alloc_past (w := wr) (.cells #[.int .i64 77, .int .i64 0, .int .i64 0, .int .i64 0, .int .i64 ((k : Int) - (n : Int))] 35) g (k * 5) q5).trans q0
        have t1 := (World.cell?_alloc_past (w := wr) (.cells #[.int .i64 77, .int .i64 0, .int .i64 0, .int .i64 0, .int .i64 ((k : Int) - (n : Int))] 35) g (k * 5 + 1) q5).trans q1
        have t2 := (World.cell?_alloc_past (w := wr) (.cells #[.int .i64 77, .int .i64 0, .int .i64 0, .int .i64 0, .int .i64 ((k : Int) - (n : Int))] 35) g (k * 5 + 2) q5).trans q2
        have t3 := (World.cell?_alloc_past (w := wr) (.cells #[.int .i64 77, .int .i64 0, .int .i64 0, .int .i64 0, .int .i64 ((k : Int) - (n : Int))] 35) g (k * 5 + 3) q5).trans q3
        have t4 := (World.cell?_alloc_past (w := wr) (.cells #[.int .i64 77, .int .i64 0, .int .i64 0, .int .i64 0, .int .i64 ((k : Int) - (n : Int))] 35) g (k * 5 + 4) q5).trans q4
        have x0 := World.cell?_alloc_new wr #[.int .i64 77, .int .i64 0, .int .i64 0, .int .i64 0, .int .i64 ((k : Int) - (n : Int))] 35 0
        have x1 := World.cell?_alloc_new wr #[.int .i64 77, .int .i64 0, .int .i64 0, .int .i64 0, .int .i64 ((k : Int) - (n : Int))] 35 1
        have x2 := World.cell?_alloc_new wr #[.int .i64 77, .int .i64 0, .int .i64 0, .int .i64 0, .int .i64 ((k : Int) - (n : Int))] 35 2
        have x3 := World.cell?_alloc_new wr #[.int .i64 77, .int .i64 0, .int .i64 0, .int .i64 0, .int .i64 ((k : Int) - (n : Int))] 35 3
        have x4 := World.cell?_alloc_new wr #[.int .i64 77, .int .i64 0, .int .i64 0, .int .i64 0, .int .i64 ((k : Int) - (n : Int))] 35 4
        have HBk2 := hide ((unhide HBk).below (bel_one (.cells #[.int .i64 77, .int .i64 0, .int .i64 0, .int .i64 0, .int .i64 ((k : Int) - (n : Int))] 35)))
        have HBl2 := hide (bel_then (unhide HBl) (bel_one (.cells #[.int .i64 77, .int .i64 0, .int .i64 0, .int .i64 0, .int .i64 ((k : Int) - (n : Int))] 35)))
        have HOn2 := hide ((unhide HOn).alloc (.cells #[.int .i64 77, .int .i64 0, .int .i64 0, .int .i64 0, .int .i64 ((k : Int) - (n : Int))] 35))
        have z2 := (unhide HBk2).frozen
        have q6 := (unhide HBk2).lt
        generalize wr.alloc (.cells #[.int .i64 77, .int .i64 0, .int .i64 0, .int .i64 0, .int .i64 ((k : Int) - (n : Int))] 35) = W at *
        generalize wr.heap.size = X at *
        clear q0 q1 q2 q3 q4 q5 z HBk HBl HOn
        go_region_held3 (fun w' => w'.cell? ⟨g, k * 5, none⟩ = some (.int .i64 77) ∧ w'.cell? ⟨g, k * 5 + 1, none⟩ = some (.int .i64 0) ∧ w'.cell? ⟨g, k * 5 + 2, none⟩ = some (.int .i64 0) ∧ w'.cell? ⟨g, k * 5 + 3, none⟩ = some (.int .i64 0) ∧ w'.cell? ⟨g, k * 5 + 4, none⟩ = some (.int .i64 ((k : Int) - (n : Int))) ∧ w'.cell? ⟨X, 0, none⟩ = some (.int .i64 77) ∧ w'.cell? ⟨X, 1, none⟩ = some (.int .i64 0) ∧ w'.cell? ⟨X, 2, none⟩ = some (.int .i64 0) ∧ w'.cell? ⟨X, 3, none⟩ = some (.int .i64 0) ∧ w'.cell? ⟨X, 4, none⟩ = some (.int .i64 ((k : Int) - (n : Int))))
          (first | exact held2 t0 t1 t2 t3 t4 x0 x1 x2 x3 x4 | assumption)
          (fail)
        go_wp2_with fail
        have hst := (unhide HBk2).store (x := fill) hll
        rw [unhide HSet] at hst
        have hbs := below_store (k := k) (x := fill) (unhide HBl2) (unhide HB)
        exact ⟨⟨k + 1, by omega, by go_num, rfl, hst, hbs.drew, (only_store (k := k) (x := fill) (unhide HOn2)).drew⟩, by simp [intOf]; omega⟩
    · have hkn : k = n + 8 := by omega
      subst hkn
      have HBl := hide hbel
      clear hbel hblk
      go_wp2_with fail
      go_ret
      exact ⟨rfl, unhide HBl, unhide HOn⟩
theorem returned_O (w0 : World) (g c2 : Nat) (v : Value) (l : List Fl) (w : World) (hw : Fls w0 v l) (hB : w0.heap.size ≤ g) (hbel : Below w0.heap.size w0 w) (hblk : Blk w g (l ++ spare 8)) (hl : l.length * 40 ≤ 140737488355328) :
    Calls Tryz.prog 34 #[.slice (some ⟨g, 0, none⟩) (l.length + 8) c2, v] w fun e w' => e = .returned (.bool true) ∧ Below w0.heap.size w0 w' ∧ Only (fun i => i = g) w w' := by
  rcases hw with ⟨rfl, a, c, rfl⟩ | ⟨b, o, c, rfl, h⟩
  · exact returned_core w0 g c2 a c [] w (fun h => by simp at h) hB hbel hblk hl
  · exact returned_core w0 g c2 _ c l w (fun _ => ⟨b, o, rfl, h⟩) hB hbel hblk hl
theorem returned_F (w0 : World) (g c2 : Nat) (v : Value) (l : List Fl) (w : World) (hw : Fls w0 v l) (hB : w0.heap.size ≤ g) (hbel : Below w0.heap.size w0 w) (hblk : Blk w g (l ++ spare 8)) (hl : l.length * 40 ≤ 140737488355328) :
    Calls Tryz.prog 34 #[.slice (some ⟨g, 0, none⟩) (l.length + 8) c2, v] w fun e w' => e = .returned (.bool true) ∧ Below w0.heap.size w0 w' := by
  refine (returned_O w0 g c2 v l w hw hB hbel hblk hl).mono ?_
  rintro e w' ⟨rfl, hb, _⟩
  exact ⟨rfl, hb⟩
end Go.Proofs.YtcnmajndackohaaGreatDoor
