/-
  Three lists of the call's own that grow beside one another, and a variable beside them.
-/
import Derived.Test.YtcnmajndackohaaDoorFlows
namespace Go.Proofs.YtcnmajndackohaaDoor
open Go.RowKit

def Dis (x y : Value) : Prop := ∀ b, x.ownBlock = some b → y.ownBlock ≠ some b
theorem Dis.symm {x y : Value} (h : Dis x y) : Dis y x := fun b hy hx => h b hx hy
structure T3 (w0 W : World) (x y z : Value) (lx ly lz : List Fl) : Prop where
  ox : Own W w0.heap.size x lx
  oy : Own W w0.heap.size y ly
  oz : Own W w0.heap.size z lz
  xy : Dis x y
  xz : Dis x z
  yz : Dis y z
  bel : Below w0.heap.size w0 W
/-- The same, and the variable in block X holds the flow f. -/
structure T4 (w0 W : World) (X : Nat) (f : Fl) (x y z : Value) (lx ly lz : List Fl) : Prop extends T3 w0 W x y z lx ly lz where
  ax : x.ownBlock ≠ some X
  ay : y.ownBlock ≠ some X
  az : z.ownBlock ≠ some X
  lt : X < W.heap.size
  ge : w0.heap.size ≤ X
  c0 : W.cell? ⟨X, 0, none⟩ = some (.int .i64 f.s)
  c1 : W.cell? ⟨X, 1, none⟩ = some (.int .i64 f.p)
  c2 : W.cell? ⟨X, 2, none⟩ = some (.int .i64 f.b)
  c3 : W.cell? ⟨X, 3, none⟩ = some (.int .i64 f.r)
  c4 : W.cell? ⟨X, 4, none⟩ = some (.int .i64 f.d)
  fz : W.frozen? ⟨X, 4, none⟩ = false
theorem own_lt {W : World} {B : Nat} {v : Value} {l : List Fl} (h : Own W B v l) : v.ownBlock ≠ some W.heap.size := fun e => Nat.lt_irrefl _ (World.ownsRow.lt h _ e).2
theorem T3.below {w0 W W' : World} {x y z : Value} {lx ly lz : List Fl} (h : T3 w0 W x y z lx ly lz) (hb : Below W.heap.size W W') : T3 w0 W' x y z lx ly lz :=
  ⟨h.ox.below hb, h.oy.below hb, h.oz.below hb, h.xy, h.xz, h.yz, bel_then h.bel hb⟩
theorem T4.below {w0 W W' : World} {X : Nat} {f : Fl} {x y z : Value} {lx ly lz : List Fl} (h : T4 w0 W X f x y z lx ly lz) (hb : Below W.heap.size W W') : T4 w0 W' X f x y z lx ly lz := by
  obtain ⟨hc, hf⟩ := bcell hb
  have := hb.size
  exact ⟨h.toT3.below hb, h.ax, h.ay, h.az, by have := h.lt; omega, h.ge, (hc _ _ h.lt).trans h.c0, (hc _ _ h.lt).trans h.c1, (hc _ _ h.lt).trans h.c2, (hc _ _ h.lt).trans h.c3, (hc _ _ h.lt).trans h.c4, (hf _ _ h.lt).trans h.fz⟩
theorem T3.new {w0 W : World} {x y z : Value} {lx ly lz : List Fl} (h : T3 w0 W x y z lx ly lz) (f : Fl) (t : TypeId) :
    T4 w0 (W.alloc (.cells #[.int .i64 f.s, .int .i64 f.p, .int .i64 f.b, .int .i64 f.r, .int .i64 f.d] t)) W.heap.size f x y z lx ly lz :=
  ⟨h.below (bel_one _), own_lt h.ox, own_lt h.oy, own_lt h.oz, by simp, h.bel.size, World.cell?_alloc_new _ _ _ 0, World.cell?_alloc_new _ _ _ 1, World.cell?_alloc_new _ _ _ 2, World.cell?_alloc_new _ _ _ 3, World.cell?_alloc_new _ _ _ 4, by simp [go_sem]⟩
/-- A list beside the one that grew. -/
theorem beside {W W' : World} {B : Nat} {x z : Value} {lz : List Fl} {g cap n : Nat} (oz : Own W B z lz) (h : Dis x z) (hg : W.grownBy W' x.ownBlock) (hat : x.ownBlock = some g ∨ g = W.heap.size) :
    Own W' B z lz ∧ Dis (.slice (some ⟨g, 0, none⟩) n cap) z := by
  refine ⟨World.ownsRow.kept oz hg ?_, ?_⟩
  · cases hz : z.ownBlock with
    | none => exact .inl rfl
    | some b => exact .inr fun e => h b e.symm hz
  · intro b hb
    have hb' : g = b := by simpa [Value.ownBlock] using hb
    subst hb'
    rcases hat with e | e
    · exact h g e
    · rw [e]; exact own_lt oz
/-- What is left when one of them has grown. -/
theorem T4.grown {w0 W W' : World} {X : Nat} {f : Fl} {x y z : Value} {lx ly lz : List Fl} {g cap n : Nat} {gl : Fl} (h : T4 w0 W X f x y z lx ly lz) (hn : lx.length + 1 = n)
    (hown : W'.ownsRow w0.heap.size 23 5 (.slice (some ⟨g, 0, none⟩) n cap) n (fcells lx ++ [.int .i64 gl.s, .int .i64 gl.p, .int .i64 gl.b, .int .i64 gl.r, .int .i64 gl.d])) (hg : W.grownBy W' x.ownBlock) (hat : x.ownBlock = some g ∨ g = W.heap.size) :
    T4 w0 W' X f (.slice (some ⟨g, 0, none⟩) n cap) y z (lx ++ [gl]) ly lz := by
  subst hn
  obtain ⟨k1, k2⟩ := own_push h.ox h.bel hown hg
  obtain ⟨y1, y2⟩ := beside (n := lx.length + 1) (cap := cap) h.oy h.xy hg hat
  obtain ⟨z1, z2⟩ := beside (n := lx.length + 1) (cap := cap) h.oz h.xz hg hat
  have far : ∀ o, W'.cell? ⟨X, o, none⟩ = W.cell? ⟨X, o, none⟩ := fun o => hg.cell_far ⟨X, o, none⟩ h.lt (Ne.symm h.ax)
  have gX : g ≠ X := by
    rcases hat with e | e
    · intro c; rw [c] at e; exact h.ax e
    · have := h.lt; omega
  have hs : W.heap.size ≤ W'.heap.size := hg.size
  refine ⟨⟨k1, y1, z1, y2, z2, h.yz, k2⟩, ?_, h.ay, h.az, by have := h.lt; omega, h.ge, (far 0).trans h.c0, (far 1).trans h.c1, (far 2).trans h.c2, (far 3).trans h.c3, (far 4).trans h.c4, ?_⟩
  · intro c; exact gX (by simpa [Value.ownBlock] using c)
  · exact (hg.frozen_far ⟨X, 4, none⟩ h.lt (Ne.symm h.ax)).trans h.fz
/-- The three in another order. -/
theorem T4.swap {w0 W : World} {X : Nat} {f : Fl} {x y z : Value} {lx ly lz : List Fl} (h : T4 w0 W X f x y z lx ly lz) : T4 w0 W X f y x z ly lx lz :=
  ⟨⟨h.oy, h.ox, h.oz, h.xy.symm, h.yz, h.xz, h.bel⟩, h.ay, h.ax, h.az, h.lt, h.ge, h.c0, h.c1, h.c2, h.c3, h.c4, h.fz⟩
theorem T4.turn {w0 W : World} {X : Nat} {f : Fl} {x y z : Value} {lx ly lz : List Fl} (h : T4 w0 W X f x y z lx ly lz) : T4 w0 W X f z x y lz lx ly :=
  ⟨⟨h.oz, h.ox, h.oy, h.xz.symm, h.yz.symm, h.xy, h.bel⟩, h.az, h.ax, h.ay, h.lt, h.ge, h.c0, h.c1, h.c2, h.c3, h.c4, h.fz⟩
theorem own_set {W : World} {B : Nat} {v : Value} {l : List Fl} {X o : Nat} {u : Value} (h : Own W B v l) (hX : v.ownBlock ≠ some X) : Own (W.setCell ⟨X, o, none⟩ u) B v l := by
  obtain ⟨h1, h2⟩ := h
  refine ⟨h1, ?_⟩
  rcases h2 with h2 | ⟨g, cap, cur, hv, hg, hc, r⟩
  · exact .inl h2
  · refine .inr ⟨g, cap, cur, hv, hg, ?_, r⟩
    rw [Below.heap_setCell _ _ _ _ (fun e => hX (by rw [hv]; simpa [Value.ownBlock] using e))]
    exact hc
theorem T4.drew {w0 W : World} {X : Nat} {f : Fl} {x y z : Value} {lx ly lz : List Fl} (h : T4 w0 W X f x y z lx ly lz) : T4 w0 W.drew X f x y z lx ly lz :=
  ⟨⟨h.ox, h.oy, h.oz, h.xy, h.xz, h.yz, h.bel.drew⟩, h.ax, h.ay, h.az, h.lt, h.ge, h.c0, h.c1, h.c2, h.c3, h.c4, h.fz⟩
/-- More time for the flow in the variable. -/
theorem T4.store {w0 W : World} {X : Nat} {f : Fl} {x y z : Value} {lx ly lz : List Fl} (h : T4 w0 W X f x y z lx ly lz) (d : Int) : T4 w0 (W.setCell ⟨X, 4, none⟩ (.int .i64 d)) X ⟨f.s, f.p, f.b, f.r, d⟩ x y z lx ly lz := by
  have other : ∀ o, o ≠ 4 → (W.setCell ⟨X, 4, none⟩ (.int .i64 d)).cell? ⟨X, o, none⟩ = W.cell? ⟨X, o, none⟩ := fun o ho => World.cell?_setCell_other _ _ _ _ (fun e => ho (by simpa using e.symm))
  refine ⟨⟨own_set h.ox h.ax, own_set h.oy h.ay, own_set h.oz h.az, h.xy, h.xz, h.yz, h.bel.setCell h.ge _⟩, h.ax, h.ay, h.az, ?_, h.ge, (other 0 (by decide)).trans h.c0, (other 1 (by decide)).trans h.c1, (other 2 (by decide)).trans h.c2, (other 3 (by decide)).trans h.c3, ?_, ?_⟩
  · simpa [go_sem] using h.lt
  · apply World.cell?_setCell_same; exact h.c4
  · simpa [go_sem] using h.fz
theorem news_at {w : World} {g : Fl} {t : TypeId} {H : Nat} (hH : w.heap.size = H) : ∀ j u, [Value.int .i64 g.s, .int .i64 g.p, .int .i64 g.b, .int .i64 g.r, .int .i64 g.d][j]? = some u → (w.alloc (.cells #[.int .i64 g.s, .int .i64 g.p, .int .i64 g.b, .int .i64 g.r, .int .i64 g.d] t)).cell? ((⟨H, 0, none⟩ : Addr).add j) = some u := by
  subst hH
  exact World.news_of_block (cs := #[.int .i64 g.s, .int .i64 g.p, .int .i64 g.b, .int .i64 g.r, .int .i64 g.d]) (t := t) (fr := (0, 0)) (heap_alloc_new w _)
end Go.Proofs.YtcnmajndackohaaDoor
