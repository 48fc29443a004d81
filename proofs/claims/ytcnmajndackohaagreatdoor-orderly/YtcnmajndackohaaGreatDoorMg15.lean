import Derived.Test.YtcnmajndackohaaGreatDoorMg14
import Derived.Test.YtcnmajndackohaaGreatDoorMg13
import Derived.Test.YtcnmajndackohaaGreatDoorMg05
import Derived.Test.YtcnmajndackohaaGreatDoorMg09
/-
  What known does: the document's example of a line.
-/
namespace Go.Proofs.YtcnmajndackohaaGreatDoor
open Go.RowKit

def kF : Fl := ⟨2, 12, 2, 3, 20⟩
def kx0 : Ln := Ln.new [kF]
def kx1 : Ln := (kx0.send 0 2).2
def kx2 : Ln := (kx1.send 0 2).2
theorem k_one : (kx0.send 0 2).1 = 0 := by decide +kernel
theorem k_two : (kx1.send 0 2).1 = 0 := by decide +kernel
theorem k_run : (kx2.run 20).1 = 0 := by decide +kernel
theorem k_gone : (kx2.run 20).2.gone.1.map (fun p => (p.flow, p.seq, p.size, p.ready, p.start)) = [(0, 0, 2, 0, 0), (0, 1, 2, 8, 8)] := by decide +kernel
theorem kF_may : ∀ f ∈ [kF], f.may := fun f hf => by
  rw [List.mem_singleton.1 hf]
  exact ⟨by decide, by decide, by decide, by decide, by decide, by decide, by decide, by decide, by decide⟩
theorem k_cells {l : List Pk} (h : l.map (fun p => (p.flow, p.seq, p.size, p.ready, p.start)) = [(0, 0, 2, 0, 0), (0, 1, 2, 8, 8)]) : l.length = 2 ∧ gcells l = [.int .i64 0, .int .i64 0, .int .i64 2, .int .i64 0, .int .i64 0, .int .i64 2, .int .i64 0, .int .i64 1, .int .i64 2, .int .i64 8, .int .i64 8, .int .i64 10] := by
  have hl : l.length = 2 := by have := congrArg List.length h; simpa using this
  obtain ⟨p, q, rfl⟩ : ∃ p q, l = [p, q] := by
    cases l with
    | nil => simp at hl
    | cons p l =>
      cases l with
      | nil => simp at hl
      | cons q l =>
        cases l with
        | nil => exact ⟨p, q, rfl⟩
        | cons r l => simp at hl
  simp only [List.map_cons, List.map_nil, List.cons.injEq, Prod.mk.injEq, and_true] at h
  obtain ⟨⟨a1, a2, a3, a4, a5⟩, b1, b2, b3, b4, b5⟩ := h
  refine ⟨rfl, ?_⟩
  simp only [gcells, gcs, a1, a2, a3, a4, a5, b1, b2, b3, b4, b5]
  rfl

set_option maxRecDepth 100000 in
set_option maxHeartbeats 2000000 in
theorem known_any (W : World) (KK : ∀ W', Below W.heap.size W W' → ∃ R, LineJ W' R) :
    Calls Tryz.prog 14 #[] W fun e w' => e = .returned (.bool true) ∧ Below W.heap.size W w' := by
  have HW1 := hide (show Below W.heap.size W (W.alloc (.cells #[.int .i64 2, .int .i64 12, .int .i64 2, .int .i64 3, .int .i64 20] 35)) from bel_one _)
  obtain ⟨R, K⟩ := KK _ (unhide HW1)
  have HK := hide K
  have hI := Is.new W 35 #[.int .i64 2, .int .i64 12, .int .i64 2, .int .i64 3, .int .i64 20]
  have hL : Lies (W.alloc (.cells #[.int .i64 2, .int .i64 12, .int .i64 2, .int .i64 3, .int .i64 20] 35)) W.heap.size 0 [kF] := by
    have hz : ∀ k, k < [kF].length → k = 0 := fun k hk => by simp at hk; exact hk
    refine ⟨hI.lt, ?_, ?_, ?_, ?_, ?_⟩
    all_goals intro k hk
    all_goals obtain rfl := hz k hk
    · exact hI.cell (j := 0) rfl
    · exact hI.cell (j := 1) rfl
    · exact hI.cell (j := 2) rfl
    · exact hI.cell (j := 3) rfl
    · exact hI.cell (j := 4) rfl
  have HPl := hide (play_some _ K W.heap.size 0 1 [kF] hL kF_may (by decide))
  clear K hI hL KK
  go_enter Tryz.func14, Tryz.ntmps14
  go_wp2_with fail
  generalize hA : W.alloc (.cells #[.int .i64 2, .int .i64 12, .int .i64 2, .int .i64 3, .int .i64 20] 35) = A at *
  clear hA
  refine (unhide HPl).mono ?_
  rintro e w1 ⟨b, rfl, hp1⟩
  clear HPl
  have HP1 := hide hp1
  obtain ⟨o, P, F, vf, vs, vo, vg, inn, hv⟩ := hp1
  have c0 := hv.blk.cell (j := 0) rfl
  have HS1 := hide ((unhide HK).send w1 P kx0 F 0 0 2 hv.bl hv.line (sml_new _) (by decide) (by decide) (by decide) (by decide) (by decide))
  rw [k_one] at HS1
  have HV := hide hv
  clear hv
  go_wp2_with fail
  refine (unhide HS1).mono ?_
  rintro e w2 ⟨rfl, F2, hR2, ho2, hF2⟩
  obtain ⟨o2, hp2, _⟩ := (unhide HV).lined hR2 ho2 hF2 (fun i hi => ((unhide HK).ge hR2 i hi).2)
  have c2 := hp2.blk.cell (j := 0) rfl
  have HS2 := hide ((unhide HK).send w2 P kx1 F2 1 0 2 hp2.bl hp2.line ((sml_new [kF]).send 0 2) (by decide) (by decide) (by decide) (by decide) (by decide))
  rw [k_two] at HS2
  have HV2 := hide hp2
  clear hp2 hR2 ho2 hF2 c0 HS1 HV HP1
  go_wp2_with fail
  refine (unhide HS2).mono ?_
  rintro e w3 ⟨rfl, F3, hR3, ho3, hF3⟩
  obtain ⟨o3, hp3, _⟩ := (unhide HV2).lined hR3 ho3 hF3 (fun i hi => ((unhide HK).ge hR3 i hi).2)
  have HRn := hide (runs_any (unhide HK) w3 b ⟨kx2, [kF], [[]], [], []⟩ 2 20 ⟨o3, P, F3, vf, vs, vo, vg, inn, hp3⟩ (((sml_new [kF]).send 0 2).send 0 2) (by decide) (by decide) (by decide) (by decide))
  rw [show (decide (((⟨kx2, [kF], [[]], [], []⟩ : Pst).x.run 20).1 = 0)) = true from by show decide ((kx2.run 20).1 = 0) = true; rw [k_run]; rfl] at HRn
  clear hp3 hR3 ho3 hF3 c2 HS2 HV2
  go_wp2_with fail
  refine (unhide HRn).mono ?_
  rintro e w4 ⟨rfl, hp4⟩
  obtain ⟨o4, P4, F4, vf4, vs4, vo4, vg4, inn4, hv4⟩ := hp4
  have hgl : (⟨kx2, [kF], [[]], [], []⟩ : Pst).runs 20 = ⟨(kx2.run 20).2.gone.2, [kF], [[]], [], (kx2.run 20).2.gone.1⟩ := rfl
  have hc := k_cells k_gone
  have hrow := hv4.go.1
  rw [hgl] at hrow
  have hrow2 : w4.ownsRow 0 63 6 vg4 2 [.int .i64 0, .int .i64 0, .int .i64 2, .int .i64 0, .int .i64 0, .int .i64 2, .int .i64 0, .int .i64 1, .int .i64 2, .int .i64 8, .int .i64 8, .int .i64 10] := by
    rw [← hc.1, ← hc.2]; exact hrow
  obtain ⟨gg, cg, rfl, hcell⟩ := row_cell hrow2 (by decide)
  have c4 := hv4.blk.cell (j := 4) rfl
  have d0 := hcell 0 _ rfl
  have d1 := hcell 1 _ rfl
  have d2 := hcell 2 _ rfl
  have d3 := hcell 3 _ rfl
  have d4 := hcell 4 _ rfl
  have d5 := hcell 5 _ rfl
  have d6 := hcell 6 _ rfl
  have d7 := hcell 7 _ rfl
  have d8 := hcell 8 _ rfl
  have d9 := hcell 9 _ rfl
  have d10 := hcell 10 _ rfl
  have d11 := hcell 11 _ rfl
  have HB4 := hide hv4.bl
  clear hrow hrow2 hv4 hcell hc hgl HRn
  go_wp2_with fail
  go_ret
  exact ⟨rfl, (unhide HW1).trans ((unhide HB4).mono (unhide HW1).size)⟩
end Go.Proofs.YtcnmajndackohaaGreatDoor
/-
  What set does: flows of a raw list, as long as all fit together.
-/
namespace Go.Proofs.YtcnmajndackohaaGreatDoor
open Go.RowKit

/-- A list of flows that is new. -/
def NewL (B : Nat) (w : World) (v : Value) (l : List Fl) : Prop := w.ownsRow 0 35 5 v l.length (fcells l) ∧ ∀ g, v.ownBlock = some g → B ≤ g
theorem NewL.own {B : Nat} {w : World} {v : Value} {l : List Fl} (h : NewL B w v l) : Own w B v l := by
  refine ⟨h.1.1, ?_⟩
  rcases h.1.2 with e | ⟨g, cap, cur, e1, e2, r⟩
  · exact .inl e
  · exact .inr ⟨g, cap, cur, e1, h.2 g (by rw [e1]; rfl), r⟩
theorem Own.newL {B : Nat} {w : World} {v : Value} {l : List Fl} (h : Own w B v l) : NewL B w v l := by
  refine ⟨⟨h.1, ?_⟩, fun g hg => (World.ownsRow.lt h g hg).1⟩
  rcases h.2 with e | ⟨g, cap, cur, e1, e2, r⟩
  · exact .inl e
  · exact .inr ⟨g, cap, cur, e1, Nat.zero_le _, r⟩
theorem row_lenF {w : World} {b : Nat} {t : TypeId} {size : Nat} {v : Value} {n : Nat} {cs : List Value} (h : w.ownsRow b t size v n cs) : ∃ a c, v = .slice a n c := by
  rcases h.2 with ⟨e1, e2⟩ | ⟨g, cap, cur, e1, _⟩
  · exact ⟨none, 0, by rw [e1, e2]⟩
  · exact ⟨_, _, e1⟩
theorem fcells_oneF (l : List Fl) : ∀ v ∈ fcells l, v.oneCell' = true := by
  induction l with
  | nil => intro v hv; cases hv
  | cons f l ih =>
    intro v hv
    simp only [fcells, List.mem_cons] at hv
    rcases hv with h | h | h | h | h | h
    · subst h; rfl
    · subst h; rfl
    · subst h; rfl
    · subst h; rfl
    · subst h; rfl
    · exact ih v h
/-- Flows that may be and fit. -/
structure Fits6 (l : List Fl) : Prop where
  may : ∀ f ∈ l, f.may
  len : l.length ≤ 6
  fit : viol l = 0

set_option maxRecDepth 100000 in
set_option maxHeartbeats 4000000 in
theorem set_some (b o c : Nat) (l : List Fl) (a0 a1 : Addr) (w : World) (hg : Gl w a0 a1) (hw : Lies w b o l) (hr : ∀ f ∈ l, Raw f) (hl : l.length ≤ maxLen) :
    Calls Tryz.prog 16 #[.slice (some ⟨b, o, none⟩) l.length c] w fun e w' => ∃ v L, e = .returned v ∧ Own w' w.heap.size v L ∧ Fits6 L ∧ Below w.heap.size w w' := by
  unfold maxLen at hl
  have HR := hide hr
  have HW := hide hw
  have HG := hide hg
  generalize hn : l.length = n at *
  have HN := hide hn
  have hn1 : (n : Int) ≤ 9223372036854775807 := by omega
  obtain ⟨i0, hi0, hz0, hz1, hz2⟩ := info_parts infoFlow
  have HI := hide hi0
  have HZ0 := hide hz0
  have HZ1 := hide hz1
  have HZ2 := hide hz2
  clear hr hw hg hn hl hi0 hz0 hz1 hz2
  go_enter Tryz.func16, Tryz.ntmps16
  go_wp2_with fail
  go_loopw [3, 4] (fun v i wr => ∃ (k : Nat) (L : List Fl), k ≤ n ∧ i = .int .i64 k ∧ NewL w.heap.size wr v L ∧ Fits6 L ∧ Below w.heap.size w wr) (fun _ i _ => n - (intOf i).toNat)
  case atStart => exact ⟨0, [], Nat.zero_le _, rfl, ⟨World.ownsRow_nil _ _ _ _, fun g hg => by cases hg⟩, ⟨(fun f hf => by cases hf), Nat.zero_le _, (by decide +kernel)⟩, Below.refl _ _⟩
  case round =>
    obtain ⟨k, L, hk, rfl, hown, hfit, hbel⟩ := hrel
    obtain ⟨av, cv, rfl⟩ := row_lenF hown.1
    have hL6 := hfit.len
    by_cases hx : k < n ∧ L.length < 6
    · obtain ⟨hkn, hL5⟩ := hx
      have hkl : k < l.length := by rw [unhide HN]; exact hkn
      have hki : (k : Int) < (n : Int) := by omega
      have hLi : (L.length : Int) < 6 := by omega
      have hraw := unhide HR l[k] (List.getElem_mem hkl)
      have HY := hide hraw
      have HC := hide (fun (W' : World) (h : Lies W' b o l) => (⟨h.c0 k hkl, h.c1 k hkl, h.c2 k hkl, h.c3 k hkl, h.c4 k hkl⟩ : _ ∧ _ ∧ _ ∧ _ ∧ _))
      have HBel := hide hbel
      have HO := hide hown
      have HF := hide hfit
      have hsz := hbel.size
      clear hbel hraw hown hfit
      generalize l[k] = f at *
      go_wp2_with (at_builtin; refine wpList_append_any _ (by rfl) _ _ 37 (by rfl) 35 i0 _ 5 40 Tryz.underlying37 (unhide HI) (unhide HZ0) (unhide HZ1) (unhide HZ2) rfl (by omega) (.slice none 0 0) 0 [] (by rfl) (World.ownsRow_nil _ _ _ _) (.slice av L.length cv) L.length (fcells L) 0 (by rfl) (unhide HO).1 (fcells_oneF _) (by unfold maxLen; omega) (by omega) ?_; intro a1' c1' w1 hown1 hgrow1 hat1; have hb1 := (unhide HBel).grown hgrow1 (unhide HBel).size (fun j hj => by cases hj); obtain ⟨r0, r1, r2, r3, r4⟩ := unhide HC w1 ((unhide HW).below hb1))
      have HM1 := hide (show NewL w.heap.size w1 (.slice a1' L.length c1') L by
        rw [Nat.zero_add, List.nil_append] at hown1
        refine ⟨hown1, fun g hg => ?_⟩
        rw [Nat.zero_add] at hat1
        rcases hat1 g hg with q | q
        · cases q
        · omega)
      have HR1 := hide ((Below.refl wr.heap.size wr).grown hgrow1 (Nat.le_refl _) (fun j hj => by cases hj))
      have HGe := hide (show ∀ g, (Value.slice a1' L.length c1').ownBlock = some g → wr.heap.size ≤ g from fun g hg => by
        rw [Nat.zero_add] at hat1
        rcases hat1 g hg with q | q
        · cases q
        · exact q)
      have HB1 := hide hb1
      clear hown1 hgrow1 hat1 hb1
      refine (flow_mk f _ (unhide HY)).mono ?_
      rintro e w2 ⟨rfl, hb2⟩
      have HM2 := hide (show Own w2 w.heap.size (.slice a1' L.length c1') L from (unhide HM1).own.below hb2)
      have HB2 := hide (bel_then (unhide HB1) hb2)
      have HR2 := hide (bel_then (unhide HR1) hb2)
      have HY2 := hide (mk_may f)
      have hsz2 : w.heap.size ≤ w2.heap.size := (unhide HB2).size
      clear hb2 r0 r1 r2 r3 r4 HM1 HB1 HY HR1
      generalize mk f = fl at *
      go_wp2_with (at_builtin; refine wpList_append_lies _ (by rfl) _ _ 37 (by rfl) w.heap.size 35 i0 _ 5 40 Tryz.underlying37 (unhide HI) (unhide HZ0) (unhide HZ1) (unhide HZ2) rfl (by omega) _ L.length (fcells L) (by rfl) (World.ownsRow.alloc (unhide HM2) _) ⟨w2.heap.size, 0, none⟩ 1 1 [.int .i64 fl.s, .int .i64 fl.p, .int .i64 fl.b, .int .i64 fl.r, .int .i64 fl.d] (by rfl) (by rfl) (World.news_of_block (cs := #[.int .i64 fl.s, .int .i64 fl.p, .int .i64 fl.b, .int .i64 fl.r, .int .i64 fl.d]) (t := 35) (fr := (0, 0)) (heap_alloc_new w2 _)) (by simp [Value.oneCell']) (by omega) (by unfold maxLen; omega) (by omega) (by simp; omega) (w2.heap.size + 1) (by simp) ?_; intro g3 cap3 w3 hown3 hgrow3 hat3 hlt3)
      have HP3 := hide (own_push (World.ownsRow.alloc (unhide HM2) _) ((unhide HB2).alloc (unhide HB2).size _) hown3 hgrow3)
      have HR3 := hide (((unhide HR2).alloc (unhide HR2).size _).grown hgrow3 (Nat.le_trans (unhide HR2).size (by simp)) (fun j hj => unhide HGe j hj))
      clear hown3 hgrow3 hat3 hlt3 HM2 HB2
      have hlen3 : (L ++ [fl]).length ≤ 6 := by simp; omega
      have HMay := hide (show ∀ g ∈ L ++ [fl], g.may from fun g hg => by
        rcases List.mem_append.1 hg with q | q
        · exact (unhide HF).may g q
        · rw [List.mem_singleton.1 q]; exact unhide HY2)
      refine (test_any _ (L ++ [fl]) a0 a1 _ ((unhide HG).below (unhide HP3).2) (unhide HP3).1.fls hlen3 (unhide HMay)).mono ?_
      rintro e w4 ⟨rfl, hb4⟩
      have HM4 := hide ((unhide HP3).1.below hb4)
      have HB4 := hide (bel_then (unhide HP3).2 hb4)
      have HO4 := hide (show NewL w.heap.size w4 (.slice av L.length cv) L from ⟨ownsRow_below (unhide HO).1 (bel_then (unhide HR3) hb4), (unhide HO).2⟩)
      clear hb4 HP3
      by_cases hv : viol (L ++ [fl]) = 0
      · rw [show tno (L ++ [fl]) = 0 from if_pos hv]
        have HV := hide hv
        clear hv
        go_wp2_with fail
        go_roundw
        case rel => exact ⟨k + 1, L ++ [fl], by omega, by go_num, (unhide HM4).newL, ⟨unhide HMay, hlen3, unhide HV⟩, unhide HB4⟩
        case measure => simp [intOf]; omega
      · rw [show tno (L ++ [fl]) = 3 from if_neg hv]
        generalize viol (L ++ [fl]) = vv at *
        clear hv
        go_wp2_with fail
        go_roundw
        case rel => exact ⟨k + 1, L, by omega, by go_num, unhide HO4, unhide HF, unhide HB4⟩
        case measure => simp [intOf]; omega
    · have HO := hide hown
      have HB := hide hbel
      have HF := hide hfit
      clear hown hbel hfit
      by_cases hkn : k < n
      · have h6 : decide ((L.length : Int) < 6) = false := by simp; omega
        have hki : (k : Int) < (n : Int) := by omega
        clear hx
        go_wp2_with fail
        go_ret
        exact ⟨_, _, rfl, (unhide HO).own, unhide HF, unhide HB⟩
      · clear hx
        go_wp2_with fail
        go_ret
        exact ⟨_, _, rfl, (unhide HO).own, unhide HF, unhide HB⟩
end Go.Proofs.YtcnmajndackohaaGreatDoor
/-
  Plain: what of a play has gone is in time, where its flows fit.
-/
namespace Go.Proofs.YtcnmajndackohaaGreatDoor
open Go.RowKit

/-- A packet's flow and tick are no less than -1. -/
def Flw (x : Ln) : Prop := ∀ p ∈ x.pk, -1 ≤ p.flow ∧ -1 ≤ p.ready
theorem flw_sk {x y : Ln} (h : Flw x) (e : y.pk.map Pk.sk = x.pk.map Pk.sk) : Flw y := fun p hp => by
  have : p.sk ∈ x.pk.map Pk.sk := by rw [← e]; exact List.mem_map.2 ⟨p, hp, rfl⟩
  obtain ⟨q, hq, e⟩ := List.mem_map.1 this
  have h1 : q.flow = p.flow := congrArg Sk.flow e
  have h2 : q.ready = p.ready := congrArg Sk.ready e
  have := h q hq
  omega
theorem flw_push {x : Ln} (h : Flw x) {k size r : Int} (hk : -1 ≤ k) (hr : -1 ≤ r) : Flw (x.push k size r) := fun p hp => by
  rcases List.mem_append.1 (show p ∈ x.pk ++ [_] from hp) with q | q
  · exact h p q
  · rw [List.mem_singleton.1 q]; exact ⟨hk, hr⟩
theorem flw_send {x : Ln} (h : Flw x) (hn : 0 ≤ x.now) (k size : Int) : Flw (x.send k size).2 := by
  refine send_cases (P := Flw) h fun st ha _ _ => flw_push h (by have := (at_some ha).1; omega) ?_
  unfold Ln.readyAt
  have := latest_ge k x.pk x.now
  rcases seekR_spec (conf st.f k size (x.pk.map Pk.sk).reverse) 401 (latest k x.now x.pk) with e | ⟨e, _⟩ <;> omega
theorem flw_other {x : Ln} (h : Flw x) (hn : 0 ≤ x.now) (size : Int) : Flw (x.other size).2 := other_cases (P := Flw) h fun _ => flw_push h (by decide) (by omega)
theorem flw_run {x : Ln} (h : Flw x) (t : Int) : Flw (x.run t).2 := by
  unfold Ln.run
  split
  · exact h
  · exact flw_sk h (ticks_sk _ _).2.1
theorem flw_gone {x : Ln} (h : Flw x) : Flw x.gone.2 := flw_sk h (untold_sk _ _ (gone_untold _ _ _))
/-- What has gone of a line whose numbers are not too great is calm. -/
theorem gone_calm {x : Ln} {n : Nat} (h : Lnv x) (hf : Flw x) (hs : Sml x n) (hn : n ≤ 1000000) (hl : x.fl.length ≤ 1000000) : ∀ p ∈ x.gone.1, calm p := by
  intro p hp
  obtain ⟨q, hq, e, h0, h1⟩ := gone_mem x.now x.began x.pk h.bg p hp
  have e1 : q.flow = p.flow := show (untold q).flow = (untold p).flow from by rw [e]
  have e2 : q.ready = p.ready := show (untold q).ready = (untold p).ready from by rw [e]
  have e3 : q.size = p.size := show (untold q).size = (untold p).size from by rw [e]
  have a := hf q hq
  have b := hs.rd q hq
  have c := hs.now
  have d := h.sz q hq
  have f : q.flow ≤ 1000000 := by
    by_cases g : 0 ≤ q.flow
    · have := h.own q hq g
      omega
    · omega
  refine ⟨by omega, by omega, by omega, by omega, by omega, by omega⟩
/-- How a play stands whose line is in order. -/
structure Gst (s : Pst) : Prop where
  lnv : Lnv s.x
  flw : Flw s.x
  calm : ∀ p ∈ s.gone, calm p
/-- And in time. -/
structure Tim (s : Pst) : Prop extends Gst s where
  lgd : Lgd s.x
  due : ∀ p ∈ s.gone, lateB s.fl p = false
theorem late_no {s : Pst} {y : Ln} (hy : y.fl.map Stt.f = s.fl) {p : Pk} (h : 0 ≤ p.flow → p.flow.toNat < y.fl.length ∧ p.start + p.size ≤ p.ready + dueOf y.fl p.flow) : lateB s.fl p = false := by
  unfold lateB
  have hlen : y.fl.length = s.fl.length := by rw [← hy, List.length_map]
  by_cases g : 0 ≤ p.flow
  · obtain ⟨h1, h2⟩ := h g
    cases hq : y.fl[p.flow.toNat]? with
    | none => rw [List.getElem?_eq_none_iff] at hq; omega
    | some st =>
      have e1 : s.fl[p.flow.toNat]? = some st.f := by rw [← hy, List.getElem?_map, hq]; rfl
      have e2 : dueOf y.fl p.flow = st.f.d := by unfold dueOf; rw [hq]
      rw [e2] at h2
      simp only [e1, Bool.or_eq_false_iff, decide_eq_false_iff_not, Bool.and_eq_false_imp, decide_eq_true_eq]
      exact ⟨by omega, fun _ => by omega⟩
  · simp only [Bool.or_eq_false_iff, decide_eq_false_iff_not, Bool.and_eq_false_imp, decide_eq_true_eq]
    exact ⟨by omega, fun c => absurd c g⟩
theorem Tim.runs {s : Pst} {n : Nat} (h : Tim s) (hp : Pin s) (hb : Bnd s n) (hn : n < 1000) (hf : s.fl.length ≤ 100000) (t : Int) : Tim (s.runs t) := by
  have hL := h.lnv.run t
  have hG := lgd_run h.lnv h.lgd t
  have hF := flw_run h.flw t
  have hs := hb.x.run t
  have hy : (s.x.run t).2.fl.map Stt.f = s.fl := (hp.runs t).fl
  have hlen : (s.x.run t).2.fl.length = s.fl.length := by rw [← hy, List.length_map]
  refine ⟨⟨hL.gone, flw_gone hF, fun p hp' => ?_⟩, lgd_gone hG, fun p hp' => ?_⟩
  · rcases List.mem_append.1 (show p ∈ s.gone ++ _ from hp') with q | q
    · exact h.calm p q
    · exact gone_calm hL hF hs (by omega) (by omega) p q
  · rcases List.mem_append.1 (show p ∈ s.gone ++ _ from hp') with q | q
    · exact h.due p q
    · exact late_no hy (gone_due hL hG p q)
theorem Tim.oth {s : Pst} (h : Tim s) (z : Int) : Tim (s.oth z) := ⟨⟨h.lnv.other z, flw_other h.flw h.lnv.n0 z, h.calm⟩, lgd_other h.lgd z, h.due⟩
theorem Tim.snd {s : Pst} (h : Tim s) (k : Nat) (z : Int) : Tim (s.snd k z) := ⟨⟨h.lnv.send k z, flw_send h.flw h.lnv.n0 k z, h.calm⟩, lgd_send h.lnv h.lgd k z, h.due⟩
theorem late_snoc {fl : List Fl} {f : Fl} {p : Pk} (h : lateB fl p = false) : lateB (fl ++ [f]) p = false := by
  unfold lateB at h ⊢
  simp only [Bool.or_eq_false_iff, decide_eq_false_iff_not, Bool.and_eq_false_imp, decide_eq_true_eq] at h ⊢
  refine ⟨by rw [List.length_append]; omega, fun h0 => ?_⟩
  have h2 := h.2 h0
  rw [List.getElem?_append_left (by omega)]
  exact h2
theorem flw_teardown {x : Ln} (h : Flw x) (k : Int) : Flw (x.teardown k).2 := by
  refine teardown_cases (P := Flw) h fun st _ _ => ?_
  refine flw_sk h ?_
  rw [(away_same _).2.1]
  exact drp_sks _ _ _
theorem Tim.stp {s : Pst} (h : Tim s) (f : Fl) : Tim (s.stp f) := by
  unfold Pst.stp
  split
  · refine ⟨⟨h.lnv.setup f, setup_cases (P := Flw) h.flw fun _ _ => h.flw, h.calm⟩, lgd_setup h.lnv h.lgd f, fun p hp => late_snoc (h.due p hp)⟩
  · exact h
theorem Tim.trn {s : Pst} (h : Tim s) (k : Nat) : Tim (s.trn k) := ⟨⟨h.lnv.teardown k, flw_teardown h.flw k, h.calm⟩, lgd_teardown h.lnv h.lgd k, h.due⟩
theorem Tim.act {s : Pst} {n : Nat} (h : Tim s) (hp : Pin s) (hb : Bnd s n) (hn : n < 1000) (hf : s.fl.length ≤ 100000) (q : Stp) : Tim (s.act q) := by
  unfold Pst.act
  split
  · split
    · exact h.snd _ _
    · exact h
  · split
    · exact h.oth _
    · split
      · exact h.runs hp hb hn hf _
      · split
        · exact h.stp _
        · split
          · split
            · exact h
            · exact h.trn _
          · exact h
theorem acts_tim {s : Pst} {n : Nat} (h : Tim s) (hp : Pin s) (hb : Bnd s n) (l : List Stp) (hf : s.fl.length + l.length ≤ 100000) : n + l.length ≤ 1000 → Tim (s.acts l) := by
  induction l generalizing s n with
  | nil => intro _; exact h
  | cons q l ih =>
    intro hl
    simp only [List.length_cons] at hl hf
    exact ih (h.act hp hb (by omega) (by omega) q) (hp.act q) (hb.act (by omega) q) (by have := act_len s q; omega) (by omega)
theorem runs_fl (s : Pst) (t : Int) : (s.runs t).fl = s.fl := rfl
theorem drain_tim {s : Pst} {n : Nat} (h : Tim s) (hp : Pin s) (hb : Bnd s n) (hf : s.fl.length ≤ 100000) : ∀ k, n + k ≤ 1000 → Tim (s.drain k) := by
  intro k
  induction k generalizing s n with
  | zero => intro _; exact h
  | succ k ih =>
    intro hk
    have hr := h.runs hp hb (by omega) hf 100
    unfold Pst.drain
    split
    · exact hr
    · exact ih (n := n + 1) hr (hp.runs 100) (hb.runs (by omega) 100) (by rw [runs_fl]; exact hf) (by omega)
theorem drain_fl : ∀ (k : Nat) (s : Pst), (s.drain k).fl = s.fl
  | 0, _ => rfl
  | k + 1, s => by
    unfold Pst.drain
    split
    · exact runs_fl s 100
    · exact (drain_fl k (s.runs 100)).trans (runs_fl s 100)
end Go.Proofs.YtcnmajndackohaaGreatDoor
