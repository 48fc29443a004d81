import Derived.Test.YtcnmajndackohaaGreatDoorMg11
import Derived.Test.YtcnmajndackohaaGreatDoorMg02
import Derived.Deep.DrawnRows
import Derived.Test.YtcnmajndackohaaGreatDoorMg04
import Derived.Test.YtcnmajndackohaaGreatDoorMg09
import Derived.OwnWalk
import Derived.Deep.AppendLies
import Derived.Test.YtcnmajndackohaaGreatDoorMg12
/-
  What flow does: one that may be, out of raw numbers.
-/
namespace Go.Proofs.YtcnmajndackohaaGreatDoor
open Go.RowKit
attribute [local go_sem ↓] Go.wp_at_zero Go.wp_at_succ

theorem may_flow (s p b r d : Int) : May (2 + pk s 7) (pk r 13 + pk p (13 - pk r 13)) (2 + pk s 7 + pk b (31 - (2 + pk s 7))) (pk r 13) (2 + pk s 7 + pk d (101 - (2 + pk s 7))) := by
  have a0 := pk_nonneg s 7 (by decide)
  have a1 := pk_lt s 7 (by decide)
  have q0 := pk_nonneg r 13 (by decide)
  have q1 := pk_lt r 13 (by decide)
  have u0 := pk_nonneg b (31 - (2 + pk s 7)) (by omega)
  have u1 := pk_lt b (31 - (2 + pk s 7)) (by omega)
  have x0 := pk_nonneg p (13 - pk r 13) (by omega)
  have x1 := pk_lt p (13 - pk r 13) (by omega)
  have y0 := pk_nonneg d (101 - (2 + pk s 7)) (by omega)
  have y1 := pk_lt d (101 - (2 + pk s 7)) (by omega)
  constructor <;> omega

set_option maxHeartbeats 2000000 in
theorem flow_any (s p b r d : Int) (w : World) (hs : R64 s) (hp : R64 p) (hb : R64 b) (hr : R64 r) (hd : R64 d) :
    Calls Tryz.prog 37 #[.agg #[.int .i64 s, .int .i64 p, .int .i64 b, .int .i64 r, .int .i64 d]] w fun e w' => e = .returned (.agg #[.int .i64 (2 + pk s 7), .int .i64 (pk r 13 + pk p (13 - pk r 13)), .int .i64 (2 + pk s 7 + pk b (31 - (2 + pk s 7))), .int .i64 (pk r 13), .int .i64 (2 + pk s 7 + pk d (101 - (2 + pk s 7)))]) ∧ Below w.heap.size w w' := by
  obtain ⟨s0, s1⟩ := hs
  obtain ⟨p0, p1⟩ := hp
  obtain ⟨b0, b1⟩ := hb
  obtain ⟨r0, r1⟩ := hr
  obtain ⟨d0, d1⟩ := hd
  have a0 := pk_nonneg s 7 (by decide)
  have a1 := pk_lt s 7 (by decide)
  have q0 := pk_nonneg r 13 (by decide)
  have q1 := pk_lt r 13 (by decide)
  have u0 := pk_nonneg b (31 - (2 + pk s 7)) (by omega)
  have u1 := pk_lt b (31 - (2 + pk s 7)) (by omega)
  have x0 := pk_nonneg p (13 - pk r 13) (by omega)
  have x1 := pk_lt p (13 - pk r 13) (by omega)
  have y0 := pk_nonneg d (101 - (2 + pk s 7)) (by omega)
  have y1 := pk_lt d (101 - (2 + pk s 7)) (by omega)
  go_enter Tryz.func37, Tryz.ntmps37
  go_wp2_with fail
  refine (pick_any s 7 _ s0 s1 (by decide) (by decide)).mono ?_
  rintro e w' ⟨rfl, rfl⟩
  go_wp2_with fail
  have S0 : 2 ≤ 2 + pk s 7 := by omega
  have S1 : 2 + pk s 7 ≤ 8 := by omega
  clear a0 a1 s0 s1
  generalize hS : 2 + pk s 7 = S at *
  generalize hB : pk b (31 - S) = B at *
  generalize hR : pk r 13 = R at *
  generalize hP : pk p (13 - R) = P at *
  generalize hD : pk d (101 - S) = D at *
  have HS : Hid (2 + pk s 7 = S) := hS
  have HB : Hid (pk b (31 - S) = B) := hB
  have HR : Hid (pk r 13 = R) := hR
  have HP : Hid (pk p (13 - R) = P) := hP
  have HD : Hid (pk d (101 - S) = D) := hD
  have e1 : IntKind.i64.wrap (31 - S) = 31 - S := by go_arith
  have e2 : IntKind.i64.wrap (S + B) = S + B := by go_arith
  have e3 : IntKind.i64.wrap (13 - R) = 13 - R := by go_arith
  have e4 : IntKind.i64.wrap (R + P) = R + P := by go_arith
  have e5 : IntKind.i64.wrap (101 - S) = 101 - S := by go_arith
  have e6 : IntKind.i64.wrap (S + D) = S + D := by go_arith
  clear hS hB hR hP hD
  go_region_held3 (fun w' => w'.cell? ⟨w.heap.size, 2, none⟩ = some (.int .i64 b) ∧ w'.cell? ⟨w.heap.size + 1 + 1, 0, none⟩ = some (.int .i64 S)) (simp [go_sem])
    (first | (go_at_call 55; refine (pick_any b (31 - S) _ b0 b1 (by omega) (by omega)).mono ?_; rintro e w' ⟨rfl, rfl⟩; rw [HB.out]))
  go_wp2_with fail
  refine (pick_any r 13 _ r0 r1 (by decide) (by decide)).mono ?_
  rintro e w' ⟨rfl, rfl⟩
  rw [HR.out]
  go_wp2_with fail
  go_region_held3 (fun w' => w'.cell? ⟨w.heap.size, 1, none⟩ = some (.int .i64 p) ∧ w'.cell? ⟨w.heap.size + 1 + 1, 3, none⟩ = some (.int .i64 R)) (simp [go_sem])
    (first | (go_at_call 55; refine (pick_any p (13 - R) _ p0 p1 (by omega) (by omega)).mono ?_; rintro e w' ⟨rfl, rfl⟩; rw [HP.out]))
  go_wp2_with fail
  go_region_held3 (fun w' => w'.cell? ⟨w.heap.size, 4, none⟩ = some (.int .i64 d) ∧ w'.cell? ⟨w.heap.size + 1 + 1, 0, none⟩ = some (.int .i64 S)) (simp [go_sem])
    (first | (go_at_call 55; refine (pick_any d (101 - S) _ d0 d1 (by omega) (by omega)).mono ?_; rintro e w' ⟨rfl, rfl⟩; rw [HD.out]))
  go_wp2_with fail
  refine bodyPost_ret (v := .agg #[.int .i64 S, .int .i64 (R + P), .int .i64 (S + B), .int .i64 R, .int .i64 (S + D)]) (by simp [results, Tryz.results37, go_sem]) rfl ⟨?_, ?_⟩
  · rw [HS.out, HB.out, HR.out, HP.out, HD.out]
  · go_grown
end Go.Proofs.YtcnmajndackohaaGreatDoor
/-
  What flows does: it lays the flows, made to be, into a new list.
-/
namespace Go.Proofs.YtcnmajndackohaaGreatDoor
open Go.RowKit

/-- A list of the call's own that holds the flows l. -/
def Own (w : World) (base : Nat) (v : Value) (l : List Fl) : Prop := w.ownsRow base 35 5 v l.length (fcells l)
theorem Own.fls {w : World} {base : Nat} {v : Value} {l : List Fl} (h : Own w base v l) : Fls w v l := by
  by_cases hn : 0 < l.length
  · obtain ⟨g, cap, rfl, _, hg⟩ := World.ownsRow.form h hn
    have hc : ∀ j u, (fcells l)[j]? = some u → w.cell? ⟨g, 0 + j, none⟩ = some u := fun j u hu => by
      have := World.ownsRow.cells h (g := g) rfl j u hu
      rwa [show (⟨g, 0, none⟩ : Addr).add j = ⟨g, 0 + j, none⟩ from by unfold Addr.add; split <;> simp_all] at this
    have hat : ∀ j u, (fcells l)[j]? = some u → w.cell? ⟨g, j, none⟩ = some u := fun j u hu => by have := hc j u hu; rwa [Nat.zero_add] at this
    refine .inr ⟨g, 0, cap, rfl, hg, ?_, ?_, ?_, ?_, ?_⟩
    all_goals intro k hk
    all_goals rw [Nat.zero_add]
    · exact hat _ _ (fcells_at l k hk).1
    · exact hat _ _ (fcells_at l k hk).2.1
    · exact hat _ _ (fcells_at l k hk).2.2.1
    · exact hat _ _ (fcells_at l k hk).2.2.2.1
    · exact hat _ _ (fcells_at l k hk).2.2.2.2
  · have e : l = [] := List.eq_nil_of_length_eq_zero (by omega)
    subst e
    rcases h.2 with ⟨rfl, _⟩ | ⟨g, cap, cur, rfl, _⟩
    · exact .inl ⟨rfl, _, _, rfl⟩
    · exact .inl ⟨rfl, _, _, rfl⟩

theorem infoFlow : (Tryz.prog.info? 35).map (fun i => (i.zero, i.size, i.bytes)) = some (some (.agg #[.int .i64 0, .int .i64 0, .int .i64 0, .int .i64 0, .int .i64 0]), 5, 40) := by kernel_rfl

theorem ownsRow_below {w w' : World} {base : Nat} {e : TypeId} {size : Nat} {v : Value} {n : Nat} {xs : List Value} (h : w.ownsRow base e size v n xs) (hb : Below w.heap.size w w') : w'.ownsRow base e size v n xs := by
  obtain ⟨h1, h2⟩ := h
  refine ⟨h1, ?_⟩
  rcases h2 with h2 | ⟨g, cap, cur, hv, hg, hc, r⟩
  · exact .inl h2
  · exact .inr ⟨g, cap, cur, hv, hg, (hb.block g (lt_of_heap hc)).trans hc, r⟩
theorem Own.below {w w' : World} {base : Nat} {v : Value} {l : List Fl} (h : Own w base v l) (hb : Below w.heap.size w w') : Own w' base v l := ownsRow_below h hb
theorem flow_mk (f : Fl) (w : World) (h : Raw f) :
    Calls Tryz.prog 37 #[.agg #[.int .i64 f.s, .int .i64 f.p, .int .i64 f.b, .int .i64 f.r, .int .i64 f.d]] w fun e w' => e = .returned (.agg #[.int .i64 (mk f).s, .int .i64 (mk f).p, .int .i64 (mk f).b, .int .i64 (mk f).r, .int .i64 (mk f).d]) ∧ Below w.heap.size w w' :=
  flow_any f.s f.p f.b f.r f.d w h.s h.p h.b h.r h.d

/-- What an append of one flow leaves. -/
theorem own_push {w0 w w' : World} {v v' : Value} {l : List Fl} {g : Fl} (hown : Own w w0.heap.size v l) (hbel : Below w0.heap.size w0 w)
    (h' : w'.ownsRow w0.heap.size 35 5 v' (l.length + 1) (fcells l ++ [.int .i64 g.s, .int .i64 g.p, .int .i64 g.b, .int .i64 g.r, .int .i64 g.d])) (hg : w.grownBy w' v.ownBlock) :
    Own w' w0.heap.size v' (l ++ [g]) ∧ Below w0.heap.size w0 w' := by
  refine ⟨?_, hbel.grown hg hbel.size (fun k hk => (World.ownsRow.lt hown k hk).1)⟩
  unfold Own
  rw [fcells_append, List.length_append]
  exact h'

set_option maxRecDepth 100000 in
set_option maxHeartbeats 4000000 in
theorem flows_some (b o c : Nat) (l : List Fl) (w : World) (hw : Lies w b o l) (hr : ∀ f ∈ l, Raw f) (hl : l.length ≤ maxLen) :
    Calls Tryz.prog 19 #[.slice (some ⟨b, o, none⟩) l.length c, .int .i64 6] w fun e w' => ∃ v, e = .returned v ∧ Own w' w.heap.size v ((l.take 6).map mk) ∧ Below w.heap.size w w' := by
  unfold maxLen at hl
  have HR := hide hr
  have HW := hide hw
  clear hr hw
  generalize hn : l.length = n at *
  have HN := hide hn
  have hn1 : (n : Int) ≤ 9223372036854775807 := by omega
  clear hn hl
  obtain ⟨i0, hi0, hz0, hz1, hz2⟩ := info_parts infoFlow
  have HI := hide hi0
  have HZ0 := hide hz0
  have HZ1 := hide hz1
  have HZ2 := hide hz2
  clear hi0 hz0 hz1 hz2
  go_enter Tryz.func19, Tryz.ntmps19
  go_wp2_with fail
  go_loopw [5, 6] (fun v i wr => ∃ k : Nat, k ≤ n ∧ k ≤ 6 ∧ i = .int .i64 k ∧ Own wr w.heap.size v ((l.take k).map mk) ∧ Below w.heap.size w wr) (fun _ i _ => 6 - (intOf i).toNat)
  case atStart => exact ⟨0, Nat.zero_le _, Nat.zero_le _, rfl, World.ownsRow_nil _ _ _ _, Below.refl _ _⟩
  case round =>
    obtain ⟨k, hk, hk6, rfl, hown, hbel⟩ := hrel
    by_cases hlt : k < n ∧ k < 6
    · obtain ⟨hkn, hk6'⟩ := hlt
      have hkl : k < l.length := by rw [unhide HN]; exact hkn
      have hraw := unhide HR l[k] (List.getElem_mem hkl)
      have hL := (unhide HW).below hbel
      have q0 := hL.c0 k hkl
      have q1 := hL.c1 k hkl
      have q2 := hL.c2 k hkl
      have q3 := hL.c3 k hkl
      have q4 := hL.c4 k hkl
      have hbw := hL.blk
      have HY := hide hraw
      have hHB := hide hbel
      have HO := hide hown
      have HT := hide (map_take_succ l k hkl)
      have hlen : ((l.take k).map mk).length = k := by rw [List.length_map, List.length_take]; omega
      have HLen := hide hlen
      have hd6 : decide ((k : Int) < 6) = true := by simp; omega
      clear hL hbel hraw hown hlen
      generalize hf : l[k] = f at *
      clear hf
      go_wp2_with fail
      refine (flow_mk f _ (unhide HY)).mono ?_
      rintro e w1 ⟨rfl, hb1⟩
      have HO1 := hide ((unhide HO).below hb1)
      have HB1 := hide (bel_then (unhide hHB) hb1)
      have HY2 := hide (mk_may f)
      clear hb1 q0 q1 q2 q3 q4 HO hHB HY
      generalize mk f = g at *
      generalize hLl : (l.take k).map mk = ll at *
      have HLl := hide hLl
      clear hLl
      go_wp2_with (at_builtin; refine wpList_append_lies _ (by rfl) _ _ 37 (by rfl) w.heap.size 35 i0 _ 5 40 Tryz.underlying37 (unhide HI) (unhide HZ0) (unhide HZ1) (unhide HZ2) rfl (by omega) _ ll.length (fcells ll) (by rfl) ((unhide HO1).alloc _) ⟨w1.heap.size, 0, none⟩ 1 1 [.int .i64 g.s, .int .i64 g.p, .int .i64 g.b, .int .i64 g.r, .int .i64 g.d] (by rfl) (by rfl) (World.news_of_block (cs := #[.int .i64 g.s, .int .i64 g.p, .int .i64 g.b, .int .i64 g.r, .int .i64 g.d]) (t := 35) (fr := (0, 0)) (heap_alloc_new w1 _)) (by simp [Value.oneCell']) (by omega) (by rw [unhide HLen]; unfold maxLen; omega) (by rw [unhide HLen]; omega) (by have := (unhide HB1).size; simp; omega) (w1.heap.size + 1) (by simp) ?_)
      intro gg cap w2 hown2 hgrow hat hlt2
      have HP := hide (own_push (World.ownsRow.alloc (unhide HO1) _) ((unhide HB1).alloc (unhide HB1).size _) hown2 hgrow)
      clear hown2 hgrow hat hlt2 HO1 HB1
      go_wp2_with fail
      go_roundw
      case rel => exact ⟨k + 1, by omega, by omega, by go_num, by rw [unhide HT, ← unhide HLl] at *; exact (unhide HP).1, (unhide HP).2⟩
      case measure => simp [intOf]; omega
    · have he : l.take 6 = l.take k := by
        by_cases h6 : k = 6
        · rw [h6]
        · rw [List.take_of_length_le (by rw [unhide HN]; omega), List.take_of_length_le (by rw [unhide HN]; omega)]
      have HE := hide he
      have HO := hide hown
      have HB := hide hbel
      clear he hown hbel
      by_cases hkn : k < n
      · have h6 : decide ((k : Int) < 6) = false := by simp; omega
        clear hlt
        go_wp2_with fail
        go_ret
        exact ⟨_, rfl, by rw [unhide HE]; exact unhide HO, unhide HB⟩
      · clear hlt
        go_wp2_with fail
        go_ret
        exact ⟨_, rfl, by rw [unhide HE]; exact unhide HO, unhide HB⟩

set_option maxHeartbeats 1000000 in
theorem flows_nil (a : Option Addr) (c : Nat) (w : World) :
    Calls Tryz.prog 19 #[.slice a 0 c, .int .i64 6] w fun e w' => e = .returned (.slice none 0 0) ∧ w' = w := by
  go_enter Tryz.func19, Tryz.ntmps19
  go_wp2_with fail
  go_rounds 1
  go_ret
  exact ⟨rfl, rfl⟩
theorem flows_F (v : Value) (l : List Fl) (w : World) (hw : Fls w v l) (hr : ∀ f ∈ l, Raw f) (hl : l.length ≤ maxLen) :
    Calls Tryz.prog 19 #[v, .int .i64 6] w fun e w' => ∃ v', e = .returned v' ∧ Own w' w.heap.size v' ((l.take 6).map mk) ∧ Below w.heap.size w w' := by
  rcases hw with ⟨rfl, a, c, rfl⟩ | ⟨b, o, c, rfl, h⟩
  · refine (flows_nil a c w).mono ?_
    rintro e w' ⟨rfl, rfl⟩
    exact ⟨_, rfl, World.ownsRow_nil _ _ _ _, Below.refl _ _⟩
  · exact flows_some b o c l w h hr hl
end Go.Proofs.YtcnmajndackohaaGreatDoor
/-
  What a step of a play does: Setup and Teardown; any step.
-/
namespace Go.Proofs.YtcnmajndackohaaGreatDoor
open Go.RowKit

set_option maxRecDepth 100000 in
set_option maxHeartbeats 2000000 in
theorem act_torn0 {W : World} {R : World → Nat → Ln → (Nat → Prop) → Prop} (K : LineJ W R) (w : World) (b : Nat) (s : Pst) (q : Stp) (h : PlayAt W R w b s) (hf0 : s.fl.length = 0) (hk : q.kind = 5) :
    Calls Tryz.prog 38 #[.pointer (some ⟨b, 0, none⟩), q.agg] w fun e w' => e = .returned (.bool true) ∧ PlayAt W R w' b s := by
  have HA := hide (h.only K (bel_one (.cells #[.int .i64 5, .int .i64 q.a, .int .i64 q.b, .int .i64 q.f.s, .int .i64 q.f.p, .int .i64 q.f.b, .int .i64 q.f.r, .int .i64 q.f.d] 48)))
  unfold Stp.agg
  rw [hk]
  clear h hk K
  obtain ⟨o, P, F, vf, vs, vo, vg, inn, hp⟩ := unhide HA
  obtain ⟨af, cf, rfl⟩ := row_len hp.fl.1
  have c1 := hp.blk.cell (j := 1) rfl
  simp only [hf0] at c1
  clear hp
  go_enter Tryz.func38, Tryz.ntmps38
  go_wp2_with fail
  go_ret
  exact ⟨rfl, unhide HA⟩
theorem teardown_two (x : Ln) (k : Int) : (x.teardown k).1 = 0 ∨ (x.teardown k).1 = 4 := by
  unfold Ln.teardown
  split
  · exact .inr rfl
  · split
    · exact .inr rfl
    · exact .inl rfl
theorem PlayV.only {W : World} {R : World → Nat → Ln → (Nat → Prop) → Prop} {w w' : World} {b : Nat} {s : Pst} {o : Whose} {P : Nat} {F : Nat → Prop} {vf vs vo vg : Value} {inn : List Value} (hp : PlayV W R w b s o P F vf vs vo vg inn) (K : LineJ W R) (hb : Below w.heap.size w w') : ∃ o', PlayV W R w' b s o' P F vf vs vo vg inn := by
  have ho : Only (fun _ => False) w w' := Only.of_below hb
  have nn : ∀ c i, False → o i ≠ c := fun _ _ q => q.elim
  refine ⟨o.give w.heap.size w'.heap.size 0, ?_⟩
  have old : ∀ i, i < w.heap.size → o.give w.heap.size w'.heap.size 0 i = o i := fun i hi => give_old hi
  exact ⟨hp.blk.below hb, K.keep hp.line ho (fun _ q => q.elim), fun i hi => (old i (K.ge hp.line i hi).2).trans (hp.lt i hi), hp.fl.keep ho (nn 3) old, hp.se.keep ho (nn 4) old, hp.il, fun k l hl => by
    obtain ⟨v, hv, hr⟩ := hp.ins k l hl
    exact ⟨v, hv, hr.keep ho (nn (10 + k)) old⟩, hp.ot.keep ho (nn 5) old, hp.go.keep ho (nn 6) old, (old b hp.blk.lt).trans hp.pb, give_free hp.fr hb.size, fun i hi => (old i (Nat.lt_of_lt_of_le hi hp.bl.size)).trans (hp.lo i hi), hp.bl.trans (hb.mono hp.bl.size)⟩
set_option maxRecDepth 100000 in
set_option maxHeartbeats 2000000 in
theorem act_torn {W : World} {R : World → Nat → Ln → (Nat → Prop) → Prop} (K : LineJ W R) (w : World) (b : Nat) (s : Pst) (n : Nat) (q : Stp) (h : PlayAt W R w b s) (hs : Sml s.x n) (hn : n < 2000000) (hf0 : 0 < s.fl.length) (hf1 : s.fl.length ≤ 100000) (hk : q.kind = 5) (a0 : -9223372036854775808 ≤ q.a) (a1 : q.a ≤ 9223372036854775807) (k : Nat) (hkk : pk q.a s.fl.length = (k : Int)) :
    Calls Tryz.prog 38 #[.pointer (some ⟨b, 0, none⟩), q.agg] w fun e w' => e = .returned (.bool true) ∧ PlayAt W R w' b (s.trn k) := by
  have hklt : k < s.fl.length := by have := pk_lt q.a s.fl.length (by omega); omega
  obtain ⟨o0, P, F, vf, vs, vo, vg, inn, hp0⟩ := h
  have hFX : ¬ F w.heap.size := fun c => by have := (K.ge hp0.line _ c).2; omega
  have hFb : ¬ F b := fun c => by have h1 := hp0.lt _ c; have h2 := hp0.pb; omega
  obtain ⟨o, hp⟩ := hp0.only K (bel_one (.cells #[.int .i64 5, .int .i64 q.a, .int .i64 q.b, .int .i64 q.f.s, .int .i64 q.f.p, .int .i64 q.f.b, .int .i64 q.f.r, .int .i64 q.f.d] 48))
  have HPa := hide (pick_any q.a s.fl.length)
  rw [hkk] at HPa
  obtain ⟨af, cf, hfv⟩ := row_len hp.fl.1
  subst hfv
  have HTd := hide (K.teardown _ P s.x F n k (hp.drew K).bl (hp.drew K).line hs (by omega) (by omega) (by omega))
  have HT2 := hide (teardown_two s.x k)
  unfold Stp.agg
  rw [hk]
  have HP := hide hp
  have HK := hide K
  have HX := hide (Is.new w 48 #[.int .i64 5, .int .i64 q.a, .int .i64 q.b, .int .i64 q.f.s, .int .i64 q.f.p, .int .i64 q.f.b, .int .i64 q.f.r, .int .i64 q.f.d])
  have HSd := hide (show ∀ w', Only F (w.alloc (.cells #[.int .i64 5, .int .i64 q.a, .int .i64 q.b, .int .i64 q.f.s, .int .i64 q.f.p, .int .i64 q.f.b, .int .i64 q.f.r, .int .i64 q.f.d] 48)) w' → w'.cell? ⟨w.heap.size, 1, none⟩ = some (.int .i64 q.a) ∧ w'.cell? ⟨b, 0, none⟩ = some (.pointer (some ⟨P, 0, none⟩)) ∧ w'.cell? ⟨b, 1, none⟩ = some (.slice af s.fl.length cf) from fun w' ho => by
    have h1 := (unhide HX).only ho hFX
    have h2 := hp.blk.only ho hFb
    exact ⟨h1.cell (j := 1) rfl, h2.cell (j := 0) rfl, h2.cell (j := 1) rfl⟩)
  have c1 := hp.blk.cell (j := 1) rfl
  clear hs K hk hkk hp0 hp hFX hFb
  generalize hnf : s.fl.length = nf at *
  have hnf1 : (nf : Int) ≤ 100000 := by omega
  have hnf0 : (0 : Int) < (nf : Int) := by omega
  have hnz : ((nf : Int) == 0) = false := by simp; omega
  have HNf := hide hnf
  clear hnf
  go_enter Tryz.func38, Tryz.ntmps38
  go_wp2_with fail
  generalize w.alloc (.cells #[.int .i64 5, .int .i64 q.a, .int .i64 q.b, .int .i64 q.f.s, .int .i64 q.f.p, .int .i64 q.f.b, .int .i64 q.f.r, .int .i64 q.f.d] 48) = wA at *
  generalize w.heap.size = X at *
  go_region_held3 (fun w' => w'.cell? ⟨X, 1, none⟩ = some (.int .i64 q.a) ∧ w'.cell? ⟨b, 0, none⟩ = some (.pointer (some ⟨P, 0, none⟩)) ∧ w'.cell? ⟨b, 1, none⟩ = some (.slice af nf cf))
    (first | exact unhide HSd _ (Only.of_below (Below.refl _ _).drew) | exact unhide HSd _ (by assumption) | assumption)
    (first
      | (go_at_call 55; refine (unhide HPa _ a0 a1 (by omega) (by omega)).mono ?_; rintro e w' ⟨rfl, rfl⟩)
      | (go_at_call 57; refine (unhide HTd).mono ?_; rintro e w2 ⟨rfl, F2, hR2, ho2, hF2⟩; have hoA := (Only.of_below (S := F) (Below.refl _ wA).drew).trans ho2 (fun _ _ h => h)))
  all_goals
    obtain ⟨o2, hp2, _⟩ := ((unhide HP).drew (unhide HK)).lined hR2 ho2 hF2 (fun i hi => ((unhide HK).ge hR2 i hi).2)
    have HP2 := hide hp2
    clear hp2 hR2 ho2 hF2 hoA c1 HTd HPa HSd
    rcases unhide HT2 with he | he
    all_goals
      rw [he]
      clear he HT2
      go_wp2_with fail
      go_ret
      exact ⟨rfl, _, _, _, _, _, _, _, _, unhide HP2⟩
/-- What Setup tells of a flow that may be. -/
theorem setup_three (x : Ln) {f : Fl} (hf : f.may) : ∃ (n b e : Int) (y : Ln), x.setup f = ((n, b, e), y) ∧ ((n = 0 ∧ b = 0 ∧ e = 2 ∧ y = x) ∨ (n = 0 ∧ 0 < b ∧ b ≤ 1300 ∧ e = 3 ∧ y = x) ∨ (n = (x.fl.length : Int) ∧ b = 0 ∧ e = 0 ∧ y = { x with fl := x.fl ++ [⟨f, 0⟩] })) := by
  have hmB : ¬ f.mayB = false := by rw [(mayB_iff f).2 hf]; decide
  unfold Ln.setup
  rw [if_neg hmB]
  split
  · exact ⟨_, _, _, _, rfl, .inl ⟨rfl, rfl, rfl, rfl⟩⟩
  · split
    · rename_i h
      exact ⟨_, _, _, _, rfl, .inr (.inl ⟨rfl, h, (viol_range _).2, rfl, rfl⟩)⟩
    · exact ⟨_, _, _, _, rfl, .inr (.inr ⟨rfl, rfl, rfl, rfl⟩)⟩
set_option maxRecDepth 100000 in
set_option maxHeartbeats 4000000 in
theorem act_setup {W : World} {R : World → Nat → Ln → (Nat → Prop) → Prop} (K : LineJ W R) (w : World) (b : Nat) (s : Pst) (n : Nat) (q : Stp) (h : PlayAt W R w b s) (hs : Sml s.x n) (hi : Pin s) (hn : n < 2000000) (hf1 : s.fl.length ≤ 100000) (hk : q.kind = 4) (hq : Raw q.f) :
    Calls Tryz.prog 38 #[.pointer (some ⟨b, 0, none⟩), q.agg] w fun e w' => e = .returned (.bool true) ∧ PlayAt W R w' b (s.stp (mk q.f)) := by
  obtain ⟨o0, P, F, vf, vs, vo, vg, inn, hp0⟩ := h
  obtain ⟨o, hp⟩ := hp0.only K (bel_one (.cells #[.int .i64 4, .int .i64 q.a, .int .i64 q.b, .int .i64 q.f.s, .int .i64 q.f.p, .int .i64 q.f.b, .int .i64 q.f.r, .int .i64 q.f.d] 48))
  have HMk := hide (fun W => flow_mk q.f W hq)
  have hmay := mk_may q.f
  generalize mk q.f = f at *
  have hxl : s.x.fl.length = s.fl.length := by rw [← hi.fl, List.length_map]
  obtain ⟨nn, bb, ee, y, hst, hcs⟩ := setup_three s.x hmay
  have HSt := hide (fun V (h1 : Below W.heap.size W V) (h2 : R V P s.x F) => K.setup V P s.x F n f h1 h2 hs (by omega) (by omega))
  rw [hst] at HSt
  have HAd := hide (fun V (h1 : PlayAt W R V b { s with x := y }) => adds_any K V b { s with x := y } f h1 (by show s.fl.length ≤ _; omega) (by show s.sent.length ≤ _; rw [hi.se]; omega))
  have HYes := hide (show ee = 0 → s.stp f = { s with x := y, fl := s.fl ++ [f], sent := s.sent ++ [[]] } from fun e => by unfold Pst.stp; rw [hst, if_pos e])
  have HNo := hide (show ee ≠ 0 → y = s.x → s.stp f = { s with x := y } from fun e e2 => by unfold Pst.stp; rw [hst, if_neg e, e2])
  have HCs := hide hcs
  rw [hxl] at HCs
  have hFb : ¬ F b := fun c => by have h1 := hp0.lt _ c; have h2 := hp0.pb; omega
  have hFw : ∀ i, F i → i < w.heap.size := fun i c => (K.ge hp0.line i c).2
  have HFb := hide hFb
  have HFw := hide hFw
  unfold Stp.agg
  rw [hk]
  have HP := hide hp
  have HK := hide K
  clear K hs hi hq hk hp hp0 hst hcs hmay hxl hFb hFw
  go_enter Tryz.func38, Tryz.ntmps38
  go_wp2_with fail
  refine (unhide HMk _).mono ?_
  rintro e w1 ⟨rfl, hb1⟩
  obtain ⟨o1, hp1⟩ := (unhide HP).only (unhide HK) (bel_then hb1 (bel_one (w := w1) (.cells #[.int .i64 f.s, .int .i64 f.p, .int .i64 f.b, .int .i64 f.r, .int .i64 f.d] 35)))
  have HP1 := hide hp1
  have HSd := hide (show ∀ w', Only F (w1.alloc (.cells #[.int .i64 f.s, .int .i64 f.p, .int .i64 f.b, .int .i64 f.r, .int .i64 f.d] 35)) w' → w'.cell? ⟨b, 0, none⟩ = some (.pointer (some ⟨P, 0, none⟩)) ∧ w'.cell? ⟨w1.heap.size, 0, none⟩ = some (.int .i64 f.s) ∧ w'.cell? ⟨w1.heap.size, 1, none⟩ = some (.int .i64 f.p) ∧ w'.cell? ⟨w1.heap.size, 2, none⟩ = some (.int .i64 f.b) ∧ w'.cell? ⟨w1.heap.size, 3, none⟩ = some (.int .i64 f.r) ∧ w'.cell? ⟨w1.heap.size, 4, none⟩ = some (.int .i64 f.d) from fun w' ho => by
    have h1 := (Is.new w1 35 #[.int .i64 f.s, .int .i64 f.p, .int .i64 f.b, .int .i64 f.r, .int .i64 f.d]).only ho (fun c => by
      have := unhide HFw _ c
      have h3 := hb1.size
      rw [World.size_alloc] at h3
      omega)
    have h2 := hp1.blk.only ho (unhide HFb)
    exact ⟨h2.cell (j := 0) rfl, h1.cell (j := 0) rfl, h1.cell (j := 1) rfl, h1.cell (j := 2) rfl, h1.cell (j := 3) rfl, h1.cell (j := 4) rfl⟩)
  clear hb1 hp1 HMk HP
  go_wp2_with fail
  generalize w1.alloc (.cells #[.int .i64 f.s, .int .i64 f.p, .int .i64 f.b, .int .i64 f.r, .int .i64 f.d] 35) = wA at *
  generalize w1.heap.size = X at *
  go_region_held3 (fun w' => w'.cell? ⟨b, 0, none⟩ = some (.pointer (some ⟨P, 0, none⟩)) ∧ w'.cell? ⟨X, 0, none⟩ = some (.int .i64 f.s) ∧ w'.cell? ⟨X, 1, none⟩ = some (.int .i64 f.p) ∧ w'.cell? ⟨X, 2, none⟩ = some (.int .i64 f.b) ∧ w'.cell? ⟨X, 3, none⟩ = some (.int .i64 f.r) ∧ w'.cell? ⟨X, 4, none⟩ = some (.int .i64 f.d))
    (first | exact unhide HSd _ (Only.of_below (Below.refl _ _).drew) | exact unhide HSd _ (by assumption) | assumption)
    (first
      | (go_at_call 56; refine (unhide HSt _ ((unhide HP1).drew (unhide HK)).bl ((unhide HP1).drew (unhide HK)).line).mono ?_; rintro e w2 ⟨rfl, F2, hR2, ho2, hF2⟩; have hoA := (Only.of_below (S := F) (Below.refl _ wA).drew).trans ho2 (fun _ _ h => h)))
  all_goals
    obtain ⟨o2, hp2, _⟩ := ((unhide HP1).drew (unhide HK)).lined hR2 ho2 hF2 (fun i hi => ((unhide HK).ge hR2 i hi).2)
    have HP2 := hide (show PlayAt W R w2 b { s with x := y } from ⟨_, _, _, _, _, _, _, _, hp2⟩)
    obtain ⟨p0, p1, p2, p3, p4, p5⟩ := unhide HSd _ hoA
    clear hp2 hR2 ho2 hF2 hoA HSt HSd HP1
    rcases unhide HCs with ⟨rfl, rfl, rfl, hy⟩ | ⟨rfl, hb0, hb1, rfl, hy⟩ | ⟨rfl, rfl, rfl, hy⟩
    · have HE := hide (unhide HNo (by decide) hy)
      clear hy HCs HYes HNo HAd
      go_wp2_with fail
      go_ret
      refine ⟨rfl, ?_⟩
      rw [unhide HE]; exact unhide HP2
    · have HE := hide (unhide HNo (by decide) hy)
      clear hy HCs HYes HNo HAd
      go_wp2_with fail
      go_ret
      refine ⟨rfl, ?_⟩
      rw [unhide HE]; exact unhide HP2
    · have HE := hide (unhide HYes rfl)
      have HAd2 := hide (unhide HAd w2 (unhide HP2))
      clear hy HCs HYes HNo HAd
      go_wp2_with fail
      refine (unhide HAd2).mono ?_
      rintro e w3 ⟨rfl, hp3⟩
      have HP3 := hide hp3
      obtain ⟨o3, P3, F3, vf3, vs3, vo3, vg3, inn3, hv3⟩ := hp3
      obtain ⟨af, cf, hfv⟩ := row_len hv3.fl.1
      have c1 := hv3.blk.cell (j := 1) rfl
      rw [hfv] at c1
      have hlen : ({ s with x := y, fl := s.fl ++ [f], sent := s.sent ++ [[]] } : Pst).fl.length = s.fl.length + 1 := by
        show (s.fl ++ [f]).length = _
        rw [List.length_append]; rfl
      rw [hlen] at c1
      clear hv3 hfv hlen HAd2
      generalize s.fl.length = nf at *
      go_wp2_with fail
      go_ret
      refine ⟨rfl, ?_⟩
      rw [unhide HE]; exact unhide HP3

/-- Raw numbers of a step. -/
structure Stp.raw (q : Stp) : Prop where
  a0 : -9223372036854775808 ≤ q.a
  a1 : q.a ≤ 9223372036854775807
  b0 : -9223372036854775808 ≤ q.b
  b1 : q.b ≤ 9223372036854775807
  f : Raw q.f
theorem act_any {W : World} {R : World → Nat → Ln → (Nat → Prop) → Prop} (K : LineJ W R) (w : World) (b : Nat) (s : Pst) (n : Nat) (q : Stp) (h : PlayAt W R w b s) (hb : Bnd s n) (hi : Pin s) (hn : n < 1000) (hf : s.fl.length ≤ 100000) (hq : q.raw) :
    Calls Tryz.prog 38 #[.pointer (some ⟨b, 0, none⟩), q.agg] w fun e w' => e = .returned (.bool true) ∧ PlayAt W R w' b (s.act q) := by
  have hgo := hb.go
  have hot := hb.ot
  by_cases k1 : q.kind = 1
  · by_cases hf0 : s.fl.length = 0
    · refine (act_send0 K w b s q h hf0 k1).mono ?_
      rintro e w' ⟨rfl, hp⟩
      refine ⟨rfl, ?_⟩
      have : s.act q = s := by
        unfold Pst.act
        rw [if_pos k1, List.getElem?_eq_none (by omega)]
      rw [this]; exact hp
    · have p0 := pk_nonneg q.a s.fl.length (by omega)
      have p1 := pk_lt q.a s.fl.length (by omega)
      have hkl : (pk q.a s.fl.length).toNat < s.fl.length := by omega
      have e : s.act q = s.snd (pk q.a s.fl.length).toNat (1 + pk q.b s.fl[(pk q.a s.fl.length).toNat].s) := by
        unfold Pst.act
        rw [if_pos k1, List.getElem?_eq_getElem hkl]
      rw [e]
      refine act_send K w b s n q h hb.x hi (by omega) (by omega) hf (fun l hl => by have := hb.se l hl; omega) k1 hq.a0 hq.a1 hq.b0 hq.b1 _ (by omega) _ ?_
      intro f hf'
      rw [List.getElem?_eq_getElem hkl] at hf'
      rw [Option.some.inj hf']
  · by_cases k2 : q.kind = 2
    · have e : s.act q = s.oth (1 + pk q.a 8) := by unfold Pst.act; rw [if_neg k1, if_pos k2]
      rw [e]
      exact act_other K w b s n q h hb.x (by omega) (by omega) k2 hq.a0 hq.a1
    · by_cases k3 : q.kind = 3
      · have e : s.act q = s.runs (pk q.a 30) := by unfold Pst.act; rw [if_neg k1, if_neg k2, if_pos k3]
        rw [e]
        refine (act_run K w b s n q h hb.x (by omega) (by omega) k3 hq.a0 hq.a1).mono ?_
        rintro e w' ⟨rfl, hp⟩
        have p0 := pk_nonneg q.a 30 (by decide)
        have p1 := pk_lt q.a 30 (by decide)
        refine ⟨?_, hp⟩
        rw [run_zero s.x p0 (by omega)]; rfl
      · by_cases k4 : q.kind = 4
        · have e : s.act q = s.stp (mk q.f) := by unfold Pst.act; rw [if_neg k1, if_neg k2, if_neg k3, if_pos k4]
          rw [e]
          exact act_setup K w b s n q h hb.x hi (by omega) hf k4 hq.f
        · by_cases k5 : q.kind = 5
          · have e : s.act q = if s.fl.length = 0 then s else s.trn (pk q.a s.fl.length).toNat := by unfold Pst.act; rw [if_neg k1, if_neg k2, if_neg k3, if_neg k4, if_pos k5]
            rw [e]
            by_cases hf0 : s.fl.length = 0
            · rw [if_pos hf0]
              exact act_torn0 K w b s q h hf0 k5
            · rw [if_neg hf0]
              have p0 := pk_nonneg q.a s.fl.length (by omega)
              exact act_torn K w b s n q h hb.x (by omega) (by omega) hf k5 hq.a0 hq.a1 _ (by omega)
          · have e : s.act q = s := by unfold Pst.act; rw [if_neg k1, if_neg k2, if_neg k3, if_neg k4, if_neg k5]
            rw [e]
            refine (act_none w b q (by omega)).mono ?_
            rintro e w' ⟨rfl, hbl⟩
            exact ⟨rfl, h.only K hbl⟩
end Go.Proofs.YtcnmajndackohaaGreatDoor
