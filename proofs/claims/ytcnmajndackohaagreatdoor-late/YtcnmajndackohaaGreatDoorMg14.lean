import Derived.Test.YtcnmajndackohaaGreatDoorMg11
import Derived.Test.YtcnmajndackohaaGreatDoorMg02
import Derived.Deep.DrawnRows
import Derived.Test.YtcnmajndackohaaGreatDoorMg04
import Derived.Test.YtcnmajndackohaaGreatDoorMg09
import Derived.OwnWalk
import Derived.Deep.AppendLies
import Derived.Test.YtcnmajndackohaaGreatDoorMg05
/-
  What flow does: one that may be, out of raw numbers.
-/
namespace Go.Proofs.YtcnmajndackohaaGreatDoor
open Go.RowKit
attribute [local go_sem ↓] Go.wp_at_zero Go.wp_at_succ

theorem may_flow (s p b r d : Int) : May (2 + pk s 7) (pk r 13 + pk p (13 - pk r 13)) (2 + pk s 7 + pk b (31 - (2 + pk s 7))) (pk r 13) (2 + pk s 7 + pk d (101 - (2 + pk s 7))) := by
  have a0 := pk_nonneg s 7 (by decide)
  have a1 := pk_lt s 7 (by decide)
  have q0 := pk_nonneg r 13 (by decide)
  have q1 := pk_lt r 13 (by decide)
  have u0 := pk_nonneg b (31 - (2 + pk s 7)) (by omega)
  have u1 := pk_lt b (31 - (2 + pk s 7)) (by omega)
  have x0 := pk_nonneg p (13 - pk r 13) (by omega)
  have x1 := pk_lt p (13 - pk r 13) (by omega)
  have y0 := pk_nonneg d (101 - (2 + pk s 7)) (by omega)
  have y1 := pk_lt d (101 - (2 + pk s 7)) (by omega)
  constructor <;> omega

set_option maxHeartbeats 2000000 in
theorem flow_any (s p b r d : Int) (w : World) (hs : R64 s) (hp : R64 p) (hb : R64 b) (hr : R64 r) (hd : R64 d) :
    Calls Tryz.prog 37 #[.agg #[.int .i64 s, .int .i64 p, .int .i64 b, .int .i64 r, .int .i64 d]] w fun e w' => e = .returned (.agg #[.int .i64 (2 + pk s 7), .int .i64 (pk r 13 + pk p (13 - pk r 13)), .int .i64 (2 + pk s 7 + pk b (31 - (2 + pk s 7))), .int .i64 (pk r 13), .int .i64 (2 + pk s 7 + pk d (101 - (2 + pk s 7)))]) ∧ Below w.heap.size w w' := by
  obtain ⟨s0, s1⟩ := hs
  obtain ⟨p0, p1⟩ := hp
  obtain ⟨b0, b1⟩ := hb
  obtain ⟨r0, r1⟩ := hr
  obtain ⟨d0, d1⟩ := hd
  have a0 := pk_nonneg s 7 (by decide)
  have a1 := pk_lt s 7 (by decide)
  have q0 := pk_nonneg r 13 (by decide)
  have q1 := pk_lt r 13 (by decide)
  have u0 := pk_nonneg b (31 - (2 + pk s 7)) (by omega)
  have u1 := pk_lt b (31 - (2 + pk s 7)) (by omega)
  have x0 := pk_nonneg p (13 - pk r 13) (by omega)
  have x1 := pk_lt p (13 - pk r 13) (by omega)
  have y0 := pk_nonneg d (101 - (2 + pk s 7)) (by omega)
  have y1 := pk_lt d (101 - (2 + pk s 7)) (by omega)
  go_enter Tryz.func37, Tryz.ntmps37
  go_wp2_with fail
  refine (pick_any s 7 _ s0 s1 (by decide) (by decide)).mono ?_
  rintro e w' ⟨rfl, rfl⟩
  go_wp2_with fail
  have S0 : 2 ≤ 2 + pk s 7 := by omega
  have S1 : 2 + pk s 7 ≤ 8 := by omega
  clear a0 a1 s0 s1
  generalize hS : 2 + pk s 7 = S at *
  generalize hB : pk b (31 - S) = B at *
  generalize hR : pk r 13 = R at *
  generalize hP : pk p (13 - R) = P at *
  generalize hD : pk d (101 - S) = D at *
  have HS : Hid (2 + pk s 7 = S) := hS
  have HB : Hid (pk b (31 - S) = B) := hB
  have HR : Hid (pk r 13 = R) := hR
  have HP : Hid (pk p (13 - R) = P) := hP
  have HD : Hid (pk d (101 - S) = D) := hD
  have e1 : IntKind.i64.wrap (31 - S) = 31 - S := by go_arith
  have e2 : IntKind.i64.wrap (S + B) = S + B := by go_arith
  have e3 : IntKind.i64.wrap (13 - R) = 13 - R := by go_arith
  have e4 : IntKind.i64.wrap (R + P) = R + P := by go_arith
  have e5 : IntKind.i64.wrap (101 - S) = 101 - S := by go_arith
  have e6 : IntKind.i64.wrap (S + D) = S + D := by go_arith
  clear hS hB hR hP hD
  go_region_held3 (fun w' => w'.cell? ⟨w.heap.size, 2, none⟩ = some (.int .i64 b) ∧ w'.cell? ⟨w.heap.size + 1 + 1, 0, none⟩ = some (.int .i64 S)) (simp [go_sem])
    (first | (go_at_call 55; refine (pick_any b (31 - S) _ b0 b1 (by omega) (by omega)).mono ?_; rintro e w' ⟨rfl, rfl⟩; rw [HB.out]))
  go_wp2_with fail
  refine (pick_any r 13 _ r0 r1 (by decide) (by decide)).mono ?_
  rintro e w' ⟨rfl, rfl⟩
  rw [HR.out]
  go_wp2_with fail
  go_region_held3 (fun w' => w'.cell? ⟨w.heap.size, 1, none⟩ = some (.int .i64 p) ∧ w'.cell? ⟨w.heap.size + 1 + 1, 3, none⟩ = some (.int .i64 R)) (simp [go_sem])
    (first | (go_at_call 55; refine (pick_any p (13 - R) _ p0 p1 (by omega) (by omega)).mono ?_; rintro e w' ⟨rfl, rfl⟩; rw [HP.out]))
  go_wp2_with fail
  go_region_held3 (fun w' => w'.cell? ⟨w.heap.size, 4, none⟩ = some (.int .i64 d) ∧ w'.cell? ⟨w.heap.size + 1 + 1, 0, none⟩ = some (.int .i64 S)) (simp [go_sem])
    (first | (go_at_call 55; refine (pick_any d (101 - S) _ d0 d1 (by omega) (by omega)).mono ?_; rintro e w' ⟨rfl, rfl⟩; rw [HD.out]))
  go_wp2_with fail
  refine bodyPost_ret (v := .agg #[.int .i64 S, .int .i64 (R + P), .int .i64 (S + B), .int .i64 R, .int .i64 (S + D)]) (by simp [results, Tryz.results37, go_sem]) rfl ⟨?_, ?_⟩
  · rw [HS.out, HB.out, HR.out, HP.out, HD.out]
  · go_grown
end Go.Proofs.YtcnmajndackohaaGreatDoor
/-
  What flows does: it lays the flows, made to be, into a new list.
-/
namespace Go.Proofs.YtcnmajndackohaaGreatDoor
open Go.RowKit

/-- A list of the call's own that holds the flows l. -/
def Own (w : World) (base : Nat) (v : Value) (l : List Fl) : Prop := w.ownsRow base 35 5 v l.length (fcells l)
theorem Own.fls {w : World} {base : Nat} {v : Value} {l : List Fl} (h : Own w base v l) : Fls w v l := by
  by_cases hn : 0 < l.length
  · obtain ⟨g, cap, rfl, _, hg⟩ := World.ownsRow.form h hn
    have hc : ∀ j u, (fcells l)[j]? = some u → w.cell? ⟨g, 0 + j, none⟩ = some u := fun j u hu => by
      have := World.ownsRow.cells h (g := g) rfl j u hu
      rwa [show (⟨g, 0, none⟩ : Addr).add j = ⟨g, 0 + j, none⟩ from by unfold Addr.add; split <;> simp_all] at this
    have hat : ∀ j u, (fcells l)[j]? = some u → w.cell? ⟨g, j, none⟩ = some u := fun j u hu => by have := hc j u hu; rwa [Nat.zero_add] at this
    refine .inr ⟨g, 0, cap, rfl, hg, ?_, ?_, ?_, ?_, ?_⟩
    all_goals intro k hk
    all_goals rw [Nat.zero_add]
    · exact hat _ _ (fcells_at l k hk).1
    · exact hat _ _ (fcells_at l k hk).2.1
    · exact hat _ _ (fcells_at l k hk).2.2.1
    · exact hat _ _ (fcells_at l k hk).2.2.2.1
    · exact hat _ _ (fcells_at l k hk).2.2.2.2
  · have e : l = [] := List.eq_nil_of_length_eq_zero (by omega)
    subst e
    rcases h.2 with ⟨rfl, _⟩ | ⟨g, cap, cur, rfl, _⟩
    · exact .inl ⟨rfl, _, _, rfl⟩
    · exact .inl ⟨rfl, _, _, rfl⟩

theorem infoFlow : (Tryz.prog.info? 35).map (fun i => (i.zero, i.size, i.bytes)) = some (some (.agg #[.int .i64 0, .int .i64 0, .int .i64 0, .int .i64 0, .int .i64 0]), 5, 40) := by kernel_rfl

theorem ownsRow_below {w w' : World} {base : Nat} {e : TypeId} {size : Nat} {v : Value} {n : Nat} {xs : List Value} (h : w.ownsRow base e size v n xs) (hb : Below w.heap.size w w') : w'.ownsRow base e size v n xs := by
  obtain ⟨h1, h2⟩ := h
  refine ⟨h1, ?_⟩
  rcases h2 with h2 | ⟨g, cap, cur, hv, hg, hc, r⟩
  · exact .inl h2
  · exact .inr ⟨g, cap, cur, hv, hg, (hb.block g (lt_of_heap hc)).trans hc, r⟩
theorem Own.below {w w' : World} {base : Nat} {v : Value} {l : List Fl} (h : Own w base v l) (hb : Below w.heap.size w w') : Own w' base v l := ownsRow_below h hb
theorem flow_mk (f : Fl) (w : World) (h : Raw f) :
    Calls Tryz.prog 37 #[.agg #[.int .i64 f.s, .int .i64 f.p, .int .i64 f.b, .int .i64 f.r, .int .i64 f.d]] w fun e w' => e = .returned (.agg #[.int .i64 (mk f).s, .int .i64 (mk f).p, .int .i64 (mk f).b, .int .i64 (mk f).r, .int .i64 (mk f).d]) ∧ Below w.heap.size w w' :=
  flow_any f.s f.p f.b f.r f.d w h.s h.p h.b h.r h.d

/-- What an append of one flow leaves. -/
theorem own_push {w0 w w' : World} {v v' : Value} {l : List Fl} {g : Fl} (hown : Own w w0.heap.size v l) (hbel : Below w0.heap.size w0 w)
    (h' : w'.ownsRow w0.heap.size 35 5 v' (l.length + 1) (fcells l ++ [.int .i64 g.s, .int .i64 g.p, .int .i64 g.b, .int .i64 g.r, .int .i64 g.d])) (hg : w.grownBy w' v.ownBlock) :
    Own w' w0.heap.size v' (l ++ [g]) ∧ Below w0.heap.size w0 w' := by
  refine ⟨?_, hbel.grown hg hbel.size (fun k hk => (World.ownsRow.lt hown k hk).1)⟩
  unfold Own
  rw [fcells_append, List.length_append]
  exact h'

set_option maxRecDepth 100000 in
set_option maxHeartbeats 4000000 in
theorem flows_some (b o c : Nat) (l : List Fl) (w : World) (hw : Lies w b o l) (hr : ∀ f ∈ l, Raw f) (hl : l.length ≤ maxLen) :
    Calls Tryz.prog 19 #[.slice (some ⟨b, o, none⟩) l.length c, .int .i64 6] w fun e w' => ∃ v, e = .returned v ∧ Own w' w.heap.size v ((l.take 6).map mk) ∧ Below w.heap.size w w' := by
  unfold maxLen at hl
  have HR := hide hr
  have HW := hide hw
  clear hr hw
  generalize hn : l.length = n at *
  have HN := hide hn
  have hn1 : (n : Int) ≤ 9223372036854775807 := by omega
  clear hn hl
  obtain ⟨i0, hi0, hz0, hz1, hz2⟩ := info_parts infoFlow
  have HI := hide hi0
  have HZ0 := hide hz0
  have HZ1 := hide hz1
  have HZ2 := hide hz2
  clear hi0 hz0 hz1 hz2
  go_enter Tryz.func19, Tryz.ntmps19
  go_wp2_with fail
  go_loopw [5, 6] (fun v i wr => ∃ k : Nat, k ≤ n ∧ k ≤ 6 ∧ i = .int .i64 k ∧ Own wr w.heap.size v ((l.take k).map mk) ∧ Below w.heap.size w wr) (fun _ i _ => 6 - (intOf i).toNat)
  case atStart => exact ⟨0, Nat.zero_le _, Nat.zero_le _, rfl, World.ownsRow_nil _ _ _ _, Below.refl _ _⟩
  case round =>
    obtain ⟨k, hk, hk6, rfl, hown, hbel⟩ := hrel
    by_cases hlt : k < n ∧ k < 6
    · obtain ⟨hkn, hk6'⟩ := hlt
      have hkl : k < l.length := by rw [unhide HN]; exact hkn
      have hraw := unhide HR l[k] (List.getElem_mem hkl)
      have hL := (unhide HW).below hbel
      have q0 := hL.c0 k hkl
      have q1 := hL.c1 k hkl
      have q2 := hL.c2 k hkl
      have q3 := hL.c3 k hkl
      have q4 := hL.c4 k hkl
      have hbw := hL.blk
      have HY := hide hraw
      have hHB := hide hbel
      have HO := hide hown
      have HT := hide (map_take_succ l k hkl)
      have hlen : ((l.take k).map mk).length = k := by rw [List.length_map, List.length_take]; omega
      have HLen := hide hlen
      have hd6 : decide ((k : Int) < 6) = true := by simp; omega
      clear hL hbel hraw hown hlen
      generalize hf : l[k] = f at *
      clear hf
      go_wp2_with fail
      refine (flow_mk f _ (unhide HY)).mono ?_
      rintro e w1 ⟨rfl, hb1⟩
      have HO1 := hide ((unhide HO).below hb1)
      have HB1 := hide (bel_then (unhide hHB) hb1)
      have HY2 := hide (mk_may f)
      clear hb1 q0 q1 q2 q3 q4 HO hHB HY
      generalize mk f = g at *
      generalize hLl : (l.take k).map mk = ll at *
      have HLl := hide hLl
      clear hLl
      go_wp2_with (at_builtin; refine wpList_append_lies _ (by rfl) _ _ 37 (by rfl) w.heap.size 35 i0 _ 5 40 Tryz.underlying37 (unhide HI) (unhide HZ0) (unhide HZ1) (unhide HZ2) rfl (by omega) _ ll.length (fcells ll) (by rfl) ((unhide HO1).alloc _) ⟨w1.heap.size, 0, none⟩ 1 1 [.int .i64 g.s, .int .i64 g.p, .int .i64 g.b, .int .i64 g.r, .int .i64 g.d] (by rfl) (by rfl) (World.news_of_block (cs := #[.int .i64 g.s, .int .i64 g.p, .int .i64 g.b, .int .i64 g.r, .int .i64 g.d]) (t := 35) (fr := (0, 0)) (heap_alloc_new w1 _)) (by simp [Value.oneCell']) (by omega) (by rw [unhide HLen]; unfold maxLen; omega) (by rw [unhide HLen]; omega) (by have := (unhide HB1).size; simp; omega) (w1.heap.size + 1) (by simp) ?_)
      intro gg cap w2 hown2 hgrow hat hlt2
      have HP := hide (own_push (World.ownsRow.alloc (unhide HO1) _) ((unhide HB1).alloc (unhide HB1).size _) hown2 hgrow)
      clear hown2 hgrow hat hlt2 HO1 HB1
      go_wp2_with fail
      go_roundw
      case rel => exact ⟨k + 1, by omega, by omega, by go_num, by rw [unhide HT, ← unhide HLl] at *; exact (unhide HP).1, (unhide HP).2⟩
      case measure => simp [intOf]; omega
    · have he : l.take 6 = l.take k := by
        by_cases h6 : k = 6
        · rw [h6]
        · rw [List.take_of_length_le (by rw [unhide HN]; omega), List.take_of_length_le (by rw [unhide HN]; omega)]
      have HE := hide he
      have HO := hide hown
      have HB := hide hbel
      clear he hown hbel
      by_cases hkn : k < n
      · have h6 : decide ((k : Int) < 6) = false := by simp; omega
        clear hlt
        go_wp2_with fail
        go_ret
        exact ⟨_, rfl, by rw [unhide HE]; exact unhide HO, unhide HB⟩
      · clear hlt
        go_wp2_with fail
        go_ret
        exact ⟨_, rfl, by rw [unhide HE]; exact unhide HO, unhide HB⟩

set_option maxHeartbeats 1000000 in
theorem flows_nil (a : Option Addr) (c : Nat) (w : World) :
    Calls Tryz.prog 19 #[.slice a 0 c, .int .i64 6] w fun e w' => e = .returned (.slice none 0 0) ∧ w' = w := by
  go_enter Tryz.func19, Tryz.ntmps19
  go_wp2_with fail
  go_rounds 1
  go_ret
  exact ⟨rfl, rfl⟩
theorem flows_F (v : Value) (l : List Fl) (w : World) (hw : Fls w v l) (hr : ∀ f ∈ l, Raw f) (hl : l.length ≤ maxLen) :
    Calls Tryz.prog 19 #[v, .int .i64 6] w fun e w' => ∃ v', e = .returned v' ∧ Own w' w.heap.size v' ((l.take 6).map mk) ∧ Below w.heap.size w w' := by
  rcases hw with ⟨rfl, a, c, rfl⟩ | ⟨b, o, c, rfl, h⟩
  · refine (flows_nil a c w).mono ?_
    rintro e w' ⟨rfl, rfl⟩
    exact ⟨_, rfl, World.ownsRow_nil _ _ _ _, Below.refl _ _⟩
  · exact flows_some b o c l w h hr hl
end Go.Proofs.YtcnmajndackohaaGreatDoor
/-
  What set does: flows of a raw list, as long as all fit together.
-/
namespace Go.Proofs.YtcnmajndackohaaGreatDoor
open Go.RowKit

/-- A list of flows that is new. -/
def NewL (B : Nat) (w : World) (v : Value) (l : List Fl) : Prop := w.ownsRow 0 35 5 v l.length (fcells l) ∧ ∀ g, v.ownBlock = some g → B ≤ g
theorem NewL.own {B : Nat} {w : World} {v : Value} {l : List Fl} (h : NewL B w v l) : Own w B v l := by
  refine ⟨h.1.1, ?_⟩
  rcases h.1.2 with e | ⟨g, cap, cur, e1, e2, r⟩
  · exact .inl e
  · exact .inr ⟨g, cap, cur, e1, h.2 g (by rw [e1]; rfl), r⟩
theorem Own.newL {B : Nat} {w : World} {v : Value} {l : List Fl} (h : Own w B v l) : NewL B w v l := by
  refine ⟨⟨h.1, ?_⟩, fun g hg => (World.ownsRow.lt h g hg).1⟩
  rcases h.2 with e | ⟨g, cap, cur, e1, e2, r⟩
  · exact .inl e
  · exact .inr ⟨g, cap, cur, e1, Nat.zero_le _, r⟩
theorem row_lenF {w : World} {b : Nat} {t : TypeId} {size : Nat} {v : Value} {n : Nat} {cs : List Value} (h : w.ownsRow b t size v n cs) : ∃ a c, v = .slice a n c := by
  rcases h.2 with ⟨e1, e2⟩ | ⟨g, cap, cur, e1, _⟩
  · exact ⟨none, 0, by rw [e1, e2]⟩
  · exact ⟨_, _, e1⟩
theorem fcells_oneF (l : List Fl) : ∀ v ∈ fcells l, v.oneCell' = true := by
  induction l with
  | nil => intro v hv; cases hv
  | cons f l ih =>
    intro v hv
    simp only [fcells, List.mem_cons] at hv
    rcases hv with h | h | h | h | h | h
    · subst h; rfl
    · subst h; rfl
    · subst h; rfl
    · subst h; rfl
    · subst h; rfl
    · exact ih v h
/-- Flows that may be and fit. -/
structure Fits6 (l : List Fl) : Prop where
  may : ∀ f ∈ l, f.may
  len : l.length ≤ 6
  fit : viol l = 0

set_option maxRecDepth 100000 in
set_option maxHeartbeats 4000000 in
theorem set_some (b o c : Nat) (l : List Fl) (a0 a1 : Addr) (w : World) (hg : Gl w a0 a1) (hw : Lies w b o l) (hr : ∀ f ∈ l, Raw f) (hl : l.length ≤ maxLen) :
    Calls Tryz.prog 16 #[.slice (some ⟨b, o, none⟩) l.length c] w fun e w' => ∃ v L, e = .returned v ∧ Own w' w.heap.size v L ∧ Fits6 L ∧ Below w.heap.size w w' := by
  unfold maxLen at hl
  have HR := hide hr
  have HW := hide hw
  have HG := hide hg
  generalize hn : l.length = n at *
  have HN := hide hn
  have hn1 : (n : Int) ≤ 9223372036854775807 := by omega
  obtain ⟨i0, hi0, hz0, hz1, hz2⟩ := info_parts infoFlow
  have HI := hide hi0
  have HZ0 := hide hz0
  have HZ1 := hide hz1
  have HZ2 := hide hz2
  clear hr hw hg hn hl hi0 hz0 hz1 hz2
  go_enter Tryz.func16, Tryz.ntmps16
  go_wp2_with fail
  go_loopw [3, 4] (fun v i wr => ∃ (k : Nat) (L : List Fl), k ≤ n ∧ i = .int .i64 k ∧ NewL w.heap.size wr v L ∧ Fits6 L ∧ Below w.heap.size w wr) (fun _ i _ => n - (intOf i).toNat)
  case atStart => exact ⟨0, [], Nat.zero_le _, rfl, ⟨World.ownsRow_nil _ _ _ _, fun g hg => by cases hg⟩, ⟨(fun f hf => by cases hf), Nat.zero_le _, (by decide +kernel)⟩, Below.refl _ _⟩
  case round =>
    obtain ⟨k, L, hk, rfl, hown, hfit, hbel⟩ := hrel
    obtain ⟨av, cv, rfl⟩ := row_lenF hown.1
    have hL6 := hfit.len
    by_cases hx : k < n ∧ L.length < 6
    · obtain ⟨hkn, hL5⟩ := hx
      have hkl : k < l.length := by rw [unhide HN]; exact hkn
      have hki : (k : Int) < (n : Int) := by omega
      have hLi : (L.length : Int) < 6 := by omega
      have hraw := unhide HR l[k] (List.getElem_mem hkl)
      have HY := hide hraw
      have HC := hide (fun (W' : World) (h : Lies W' b o l) => (⟨h.c0 k hkl, h.c1 k hkl, h.c2 k hkl, h.c3 k hkl, h.c4 k hkl⟩ : _ ∧ _ ∧ _ ∧ _ ∧ _))
      have HBel := hide hbel
      have HO := hide hown
      have HF := hide hfit
      have hsz := hbel.size
      clear hbel hraw hown hfit
      generalize l[k] = f at *
      go_wp2_with (at_builtin; refine wpList_append_any _ (by rfl) _ _ 37 (by rfl) 35 i0 _ 5 40 Tryz.underlying37 (unhide HI) (unhide HZ0) (unhide HZ1) (unhide HZ2) rfl (by omega) (.slice none 0 0) 0 [] (by rfl) (World.ownsRow_nil _ _ _ _) (.slice av L.length cv) L.length (fcells L) 0 (by rfl) (unhide HO).1 (fcells_oneF _) (by unfold maxLen; omega) (by omega) ?_; intro a1' c1' w1 hown1 hgrow1 hat1; have hb1 := (unhide HBel).grown hgrow1 (unhide HBel).size (fun j hj => by cases hj); obtain ⟨r0, r1, r2, r3, r4⟩ := unhide HC w1 ((unhide HW).below hb1))
      have HM1 := hide (show NewL w.heap.size w1 (.slice a1' L.length c1') L by
        rw [Nat.zero_add, List.nil_append] at hown1
        refine ⟨hown1, fun g hg => ?_⟩
        rw [Nat.zero_add] at hat1
        rcases hat1 g hg with q | q
        · cases q
        · omega)
      have HR1 := hide ((Below.refl wr.heap.size wr).grown hgrow1 (Nat.le_refl _) (fun j hj => by cases hj))
      have HGe := hide (show ∀ g, (Value.slice a1' L.length c1').ownBlock = some g → wr.heap.size ≤ g from fun g hg => by
        rw [Nat.zero_add] at hat1
        rcases hat1 g hg with q | q
        · cases q
        · exact q)
      have HB1 := hide hb1
      clear hown1 hgrow1 hat1 hb1
      refine (flow_mk f _ (unhide HY)).mono ?_
      rintro e w2 ⟨rfl, hb2⟩
      have HM2 := hide (show Own w2 w.heap.size (.slice a1' L.length c1') L from (unhide HM1).own.below hb2)
      have HB2 := hide (bel_then (unhide HB1) hb2)
      have HR2 := hide (bel_then (unhide HR1) hb2)
      have HY2 := hide (mk_may f)
      have hsz2 : w.heap.size ≤ w2.heap.size := (unhide HB2).size
      clear hb2 r0 r1 r2 r3 r4 HM1 HB1 HY HR1
      generalize mk f = fl at *
      go_wp2_with (at_builtin; refine wpList_append_lies _ (by rfl) _ _ 37 (by rfl) w.heap.size 35 i0 _ 5 40 Tryz.underlying37 (unhide HI) (unhide HZ0) (unhide HZ1) (unhide HZ2) rfl (by omega) _ L.length (fcells L) (by rfl) (World.ownsRow.alloc (unhide HM2) _) ⟨w2.heap.size, 0, none⟩ 1 1 [.int .i64 fl.s, .int .i64 fl.p, .int .i64 fl.b, .int .i64 fl.r, .int .i64 fl.d] (by rfl) (by rfl) (World.news_of_block (cs := #[.int .i64 fl.s, .int .i64 fl.p, .int .i64 fl.b, .int .i64 fl.r, .int .i64 fl.d]) (t := 35) (fr := (0, 0)) (heap_alloc_new w2 _)) (by simp [Value.oneCell']) (by omega) (by unfold maxLen; omega) (by omega) (by simp; omega) (w2.heap.size + 1) (by simp) ?_; intro g3 cap3 w3 hown3 hgrow3 hat3 hlt3)
      have HP3 := hide (own_push (World.ownsRow.alloc (unhide HM2) _) ((unhide HB2).alloc (unhide HB2).size _) hown3 hgrow3)
      have HR3 := hide (((unhide HR2).alloc (unhide HR2).size _).grown hgrow3 (Nat.le_trans (unhide HR2).size (by simp)) (fun j hj => unhide HGe j hj))
      clear hown3 hgrow3 hat3 hlt3 HM2 HB2
      have hlen3 : (L ++ [fl]).length ≤ 6 := by simp; omega
      have HMay := hide (show ∀ g ∈ L ++ [fl], g.may from fun g hg => by
        rcases List.mem_append.1 hg with q | q
        · exact (unhide HF).may g q
        · rw [List.mem_singleton.1 q]; exact unhide HY2)
      refine (test_any _ (L ++ [fl]) a0 a1 _ ((unhide HG).below (unhide HP3).2) (unhide HP3).1.fls hlen3 (unhide HMay)).mono ?_
      rintro e w4 ⟨rfl, hb4⟩
      have HM4 := hide ((unhide HP3).1.below hb4)
      have HB4 := hide (bel_then (unhide HP3).2 hb4)
      have HO4 := hide (show NewL w.heap.size w4 (.slice av L.length cv) L from ⟨ownsRow_below (unhide HO).1 (bel_then (unhide HR3) hb4), (unhide HO).2⟩)
      clear hb4 HP3
      by_cases hv : viol (L ++ [fl]) = 0
      · rw [show tno (L ++ [fl]) = 0 from if_pos hv]
        have HV := hide hv
        clear hv
        go_wp2_with fail
        go_roundw
        case rel => exact ⟨k + 1, L ++ [fl], by omega, by go_num, (unhide HM4).newL, ⟨unhide HMay, hlen3, unhide HV⟩, unhide HB4⟩
        case measure => simp [intOf]; omega
      · rw [show tno (L ++ [fl]) = 3 from if_neg hv]
        generalize viol (L ++ [fl]) = vv at *
        clear hv
        go_wp2_with fail
        go_roundw
        case rel => exact ⟨k + 1, L, by omega, by go_num, unhide HO4, unhide HF, unhide HB4⟩
        case measure => simp [intOf]; omega
    · have HO := hide hown
      have HB := hide hbel
      have HF := hide hfit
      clear hown hbel hfit
      by_cases hkn : k < n
      · have h6 : decide ((L.length : Int) < 6) = false := by simp; omega
        have hki : (k : Int) < (n : Int) := by omega
        clear hx
        go_wp2_with fail
        go_ret
        exact ⟨_, _, rfl, (unhide HO).own, unhide HF, unhide HB⟩
      · clear hx
        go_wp2_with fail
        go_ret
        exact ⟨_, _, rfl, (unhide HO).own, unhide HF, unhide HB⟩
end Go.Proofs.YtcnmajndackohaaGreatDoor
