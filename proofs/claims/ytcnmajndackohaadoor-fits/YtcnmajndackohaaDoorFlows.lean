/-
  What flows does: it lays the flows, made to be, into a new list.
-/
import Derived.Test.YtcnmajndackohaaDoorWalkC
import Derived.Test.YtcnmajndackohaaDoorFit
import Derived.Test.YtcnmajndackohaaDoorCells
import Derived.OwnWalk
import Derived.Deep.AppendLies
namespace Go.Proofs.YtcnmajndackohaaDoor
open Go.RowKit

/-- A list of the call's own that holds the flows l. -/
def Own (w : World) (base : Nat) (v : Value) (l : List Fl) : Prop := w.ownsRow base 23 5 v l.length (fcells l)
theorem Own.fls {w : World} {base : Nat} {v : Value} {l : List Fl} (h : Own w base v l) : Fls w v l := by
  by_cases hn : 0 < l.length
  · obtain ⟨g, cap, rfl, _, hg⟩ := World.ownsRow.form h hn
    have hc : ∀ j u, (fcells l)[j]? = some u → w.cell? ⟨g, 0 + j, none⟩ = some u := fun j u hu => by
      have := World.ownsRow.cells h (g := g) rfl j u hu
      rwa [show (⟨g, 0, none⟩ : Addr).add j = ⟨g, 0 + j, none⟩ from by unfold Addr.add; split <;> simp_all] at this
    have hat : ∀ j u, (fcells l)[j]? = some u → w.cell? ⟨g, j, none⟩ = some u := fun j u hu => by have := hc j u hu; rwa [Nat.zero_add] at this
    refine .inr ⟨g, 0, cap, rfl, hg, ?_, ?_, ?_, ?_, ?_⟩
    all_goals intro k hk
    all_goals rw [Nat.zero_add]
    · exact hat _ _ (fcells_at l k hk).1
    · exact hat _ _ (fcells_at l k hk).2.1
    · exact hat _ _ (fcells_at l k hk).2.2.1
    · exact hat _ _ (fcells_at l k hk).2.2.2.1
    · exact hat _ _ (fcells_at l k hk).2.2.2.2
  · have e : l = [] := List.eq_nil_of_length_eq_zero (by omega)
    subst e
    rcases h.2 with ⟨rfl, _⟩ | ⟨g, cap, cur, rfl, _⟩
    · exact .inl ⟨rfl, _, _, rfl⟩
    · exact .inl ⟨rfl, _, _, rfl⟩

theorem infoFlow : (Tryd.prog.info? 23).map (fun i => (i.zero, i.size, i.bytes)) = some (some (.agg #[.int .i64 0, .int .i64 0, .int .i64 0, .int .i64 0, .int .i64 0]), 5, 40) := by kernel_rfl

theorem ownsRow_below {w w' : World} {base : Nat} {e : TypeId} {size : Nat} {v : Value} {n : Nat} {xs : List Value} (h : w.ownsRow base e size v n xs) (hb : Below w.heap.size w w') : w'.ownsRow base e size v n xs := by
  obtain ⟨h1, h2⟩ := h
  refine ⟨h1, ?_⟩
  rcases h2 with h2 | ⟨g, cap, cur, hv, hg, hc, r⟩
  · exact .inl h2
  · exact .inr ⟨g, cap, cur, hv, hg, (hb.block g (lt_of_heap hc)).trans hc, r⟩
theorem Own.below {w w' : World} {base : Nat} {v : Value} {l : List Fl} (h : Own w base v l) (hb : Below w.heap.size w w') : Own w' base v l := ownsRow_below h hb
theorem flow_mk (f : Fl) (w : World) (h : Raw f) :
    Calls Tryd.prog 5 #[.agg #[.int .i64 f.s, .int .i64 f.p, .int .i64 f.b, .int .i64 f.r, .int .i64 f.d]] w fun e w' => e = .returned (.agg #[.int .i64 (mk f).s, .int .i64 (mk f).p, .int .i64 (mk f).b, .int .i64 (mk f).r, .int .i64 (mk f).d]) ∧ Below w.heap.size w w' :=
  flow_any f.s f.p f.b f.r f.d w h.s h.p h.b h.r h.d

/-- What an append of one flow leaves. -/
theorem own_push {w0 w w' : World} {v v' : Value} {l : List Fl} {g : Fl} (hown : Own w w0.heap.size v l) (hbel : Below w0.heap.size w0 w)
    (h' : w'.ownsRow w0.heap.size 23 5 v' (l.length + 1) (fcells l ++ [.int .i64 g.s, .int .i64 g.p, .int .i64 g.b, .int .i64 g.r, .int .i64 g.d])) (hg : w.grownBy w' v.ownBlock) :
    Own w' w0.heap.size v' (l ++ [g]) ∧ Below w0.heap.size w0 w' := by
  refine ⟨?_, hbel.grown hg hbel.size (fun k hk => (World.ownsRow.lt hown k hk).1)⟩
  unfold Own
  rw [fcells_append, List.length_append]
  exact h'

set_option maxRecDepth 100000 in
set_option maxHeartbeats 4000000 in
theorem flows_some (b o c : Nat) (l : List Fl) (w : World) (hw : Lies w b o l) (hr : ∀ f ∈ l, Raw f) (hl : l.length ≤ maxLen) :
    Calls Tryd.prog 8 #[.slice (some ⟨b, o, none⟩) l.length c, .int .i64 6] w fun e w' => ∃ v, e = .returned v ∧ Own w' w.heap.size v ((l.take 6).map mk) ∧ Below w.heap.size w w' := by
  unfold maxLen at hl
  have HR := hide hr
  have HW := hide hw
  clear hr hw
  generalize hn : l.length = n at *
  have HN := hide hn
  have hn1 : (n : Int) ≤ 9223372036854775807 := by omega
  clear hn hl
  obtain ⟨i0, hi0, hz0, hz1, hz2⟩ := info_parts infoFlow
  have HI := hide hi0
  have HZ0 := hide hz0
  have HZ1 := hide hz1
  have HZ2 := hide hz2
  clear hi0 hz0 hz1 hz2
  go_enter Tryd.func8, Tryd.ntmps8
  go_wp2_with fail
  go_loopw [5, 6] (fun v i wr => ∃ k : Nat, k ≤ n ∧ k ≤ 6 ∧ i = .int .i64 k ∧ Own wr w.heap.size v ((l.take k).map mk) ∧ Below w.heap.size w wr) (fun _ i _ => 6 - (intOf i).toNat)
  case atStart => exact ⟨0, Nat.zero_le _, Nat.zero_le _, rfl, World.ownsRow_nil _ _ _ _, Below.refl _ _⟩
  case round =>
    obtain ⟨k, hk, hk6, rfl, hown, hbel⟩ := hrel
    by_cases hlt : k < n ∧ k < 6
    · obtain ⟨hkn, hk6'⟩ := hlt
      have hkl : k < l.length := by rw [unhide HN]; exact hkn
      have hraw := unhide HR l[k] (List.getElem_mem hkl)
      have hL := (unhide HW).below hbel
      have q0 := hL.c0 k hkl
      have q1 := hL.c1 k hkl
      have q2 := hL.c2 k hkl
      have q3 := hL.c3 k hkl
      have q4 := hL.c4 k hkl
      have hbw := hL.blk
      have HY := hide hraw
      have hHB := hide hbel
      have HO := hide hown
      have HT := hide (map_take_succ l k hkl)
      have hlen : ((l.take k).map mk).length = k := by rw [List.length_map, List.length_take]; omega
      have HLen := hide hlen
      have hd6 : decide ((k : Int) < 6) = true := by simp; omega
      clear hL hbel hraw hown hlen
      generalize hf : l[k] = f at *
      clear hf
      go_wp2_with fail
      refine (flow_mk f _ (unhide HY)).mono ?_
      rintro e w1 ⟨rfl, hb1⟩
      have HO1 := hide ((unhide HO).below hb1)
      have HB1 := hide (bel_then (unhide hHB) hb1)
      have HY2 := hide (mk_may f)
      clear hb1 q0 q1 q2 q3 q4 HO hHB HY
      generalize mk f = g at *
      generalize hLl : (l.take k).map mk = ll at *
      have HLl := hide hLl
      clear hLl
      go_wp2_with (at_builtin; refine wpList_append_lies _ (by rfl) _ _ 28 (by rfl) w.heap.size 23 i0 _ 5 40 Tryd.underlying28 (unhide HI) (unhide HZ0) (unhide HZ1) (unhide HZ2) rfl (by omega) _ ll.length (fcells ll) (by rfl) ((unhide HO1).alloc _) ⟨w1.heap.size, 0, none⟩ 1 1 [.int .i64 g.s, .int .i64 g.p, .int .i64 g.b, .int .i64 g.r, .int .i64 g.d] (by rfl) (by rfl) (World.news_of_block (cs := #[.int .i64 g.s, .int .i64 g.p, .int .i64 g.b, .int .i64 g.r, .int .i64 g.d]) (t := 23) (fr := (0, 0)) (heap_alloc_new w1 _)) (by simp [Value.oneCell']) (by omega) (by rw [unhide HLen]; unfold maxLen; omega) (by rw [unhide HLen]; omega) (by have := (unhide HB1).size; simp; omega) (w1.heap.size + 1) (by simp) ?_)
      intro gg cap w2 hown2 hgrow hat hlt2
      have HP := hide (own_push (World.ownsRow.alloc (unhide HO1) _) ((unhide HB1).alloc (unhide HB1).size _) hown2 hgrow)
      clear hown2 hgrow hat hlt2 HO1 HB1
      go_wp2_with fail
      go_roundw
      case rel => exact ⟨k + 1, by omega, by omega, by go_num, by rw [unhide HT, ← unhide HLl] at *; exact (unhide HP).1, (unhide HP).2⟩
      case measure => simp [intOf]; omega
    · have he : l.take 6 = l.take k := by
        by_cases h6 : k = 6
        · rw [h6]
        · rw [List.take_of_length_le (by rw [unhide HN]; omega), List.take_of_length_le (by rw [unhide HN]; omega)]
      have HE := hide he
      have HO := hide hown
      have HB := hide hbel
      clear he hown hbel
      by_cases hkn : k < n
      · have h6 : decide ((k : Int) < 6) = false := by simp; omega
        clear hlt
        go_wp2_with fail
        go_ret
        exact ⟨_, rfl, by rw [unhide HE]; exact unhide HO, unhide HB⟩
      · clear hlt
        go_wp2_with fail
        go_ret
        exact ⟨_, rfl, by rw [unhide HE]; exact unhide HO, unhide HB⟩

set_option maxHeartbeats 1000000 in
theorem flows_nil (a : Option Addr) (c : Nat) (w : World) :
    Calls Tryd.prog 8 #[.slice a 0 c, .int .i64 6] w fun e w' => e = .returned (.slice none 0 0) ∧ w' = w := by
  go_enter Tryd.func8, Tryd.ntmps8
  go_wp2_with fail
  go_rounds 1
  go_ret
  exact ⟨rfl, rfl⟩
theorem flows_F (v : Value) (l : List Fl) (w : World) (hw : Fls w v l) (hr : ∀ f ∈ l, Raw f) (hl : l.length ≤ maxLen) :
    Calls Tryd.prog 8 #[v, .int .i64 6] w fun e w' => ∃ v', e = .returned v' ∧ Own w' w.heap.size v' ((l.take 6).map mk) ∧ Below w.heap.size w w' := by
  rcases hw with ⟨rfl, a, c, rfl⟩ | ⟨b, o, c, rfl, h⟩
  · refine (flows_nil a c w).mono ?_
    rintro e w' ⟨rfl, rfl⟩
    exact ⟨_, rfl, World.ownsRow_nil _ _ _ _, Below.refl _ _⟩
  · exact flows_some b o c l w h hr hl
end Go.Proofs.YtcnmajndackohaaDoor
