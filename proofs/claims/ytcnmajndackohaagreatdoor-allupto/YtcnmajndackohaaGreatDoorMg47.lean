import Derived.Test.YtcnmajndackohaaGreatDoorMg45
import Derived.Test.YtcnmajndackohaaGreatDoorMg27
import Derived.Test.YtcnmajndackohaaGreatDoorMg42
import Derived.Test.YtcnmajndackohaaGreatDoorMg36
/-
  The law's world gets one more line.
-/
namespace Go.Proofs.YtcnmajndackohaaGreatDoor
open Go.RowKit
theorem ptrs_more (l : List Nat) (p : Nat) : ptrs (l ++ [p]) = ptrs l ++ [.pointer (some ⟨p, 0, none⟩)] := by unfold ptrs; rw [List.map_append]; rfl
theorem lsW0 {ps qs : List Nat} {gl : List Value} {gm : List Int} {il : List Value} {im : List Int} (p : Nat) : (fun i => if i = 0 then lsW ps qs gl gm il im 0 ++ [.pointer (some ⟨p, 0, none⟩)] else lsW ps qs gl gm il im i) = lsW (ps ++ [p]) qs gl gm il im := by
  funext i
  match i with
  | 0 => exact (ptrs_more ps p).symm
  | 1 | 2 | 3 | 4 | 5 => rfl
  | i + 6 => rfl
theorem lsW1 {ps qs : List Nat} {gl : List Value} {gm : List Int} {il : List Value} {im : List Int} (p : Nat) : (fun i => if i = 1 then lsW ps qs gl gm il im 1 ++ [.pointer (some ⟨p, 0, none⟩)] else lsW ps qs gl gm il im i) = lsW ps (qs ++ [p]) gl gm il im := by
  funext i
  match i with
  | 1 => exact (ptrs_more qs p).symm
  | 0 | 2 | 3 | 4 | 5 => rfl
  | i + 6 => rfl
/-- The world with a new pair of lines beside it. -/
def Nw (W w : World) (B : Nat) (o : Whose) (vs : Nat → Value) (ls : Nat → List Value) (ps qs : List Nat) (xs : List Ln) (gl : List Value) (gm : List Int) (il : List Value) (im : List Int) (m P Q : Nat) (y : Ln) : Prop :=
  WdC w B o vs ls ∧ Mks w o gl gm il im ∧ Lns W w o ps qs xs (fun i => i < m) ∧ PLn W w o (9 + 2 * m) P y ∧ QLn w o (10 + 2 * m) Q y ∧ Below W.heap.size W w ∧ ∀ i, o i ≠ 0 → W.heap.size ≤ i
section
variable {W w w1 w2 w3 w4 : World} {B : Nat} {o : Whose} {vs : Nat → Value} {ls : Nat → List Value} {ps qs : List Nat} {xs : List Ln} {gl : List Value} {gm : List Int} {il : List Value} {im : List Int} {n n' m P Q j : Nat} {y : Ln} {a : Nat → Addr} {a0 a1 : Addr} {u v' : Value}
theorem Nw.grow (hg : GlA W a a0 a1) (h : Nw W w B o vs ls ps qs xs gl gm il im m P Q y) (hj : j < 6) (hb : Below w.heap.size w w1) (h' : w2.ownsRow 0 (tyW j) 1 v' ((ls j).length + 1) (ls j ++ [u])) (hgr : w1.grownBy w2 (vs j).ownBlock) (hat : ∀ g, v'.ownBlock = some g → (vs j).ownBlock = some g ∨ w.heap.size ≤ g) :
    Nw W (w2.setCell ⟨B, j, none⟩ v') B (o.give w.heap.size w2.heap.size (2 + j)) (fun i => if i = j then v' else vs i) (fun i => if i = j then ls j ++ [u] else ls i) ps qs xs gl gm il im m P Q y ∧ Is w2 B 30 #[vs 0, vs 1, vs 2, vs 3, vs 4, vs 5] := by
  obtain ⟨h1, hm, h2, h3, h4, h6, h7⟩ := h
  obtain ⟨c1, c2, c3⟩ := h1.grow hj hb h' hgr hat
  have old : ∀ i, i < w.heap.size → o.give w.heap.size w2.heap.size (2 + j) i = o i := fun i hi => give_old hi
  have far : ∀ c, 8 ≤ c → ∀ i, o i = 1 ∨ o i = 2 + j → o i ≠ c := fun c hc i hi => by omega
  refine ⟨⟨c1, hm.keep c2 (far 8 (by omega)) (fun i hi e => (old i hi).trans e), h2.keep hg c2 (fun i hi k _ => ⟨far _ (by omega) i hi, far _ (by omega) i hi⟩) (fun i hi _ _ _ => old i hi), h3.keep hg c2 (far _ (by omega)) (fun i hi e => (old i hi).trans e), h4.keep c2 (far _ (by omega)) (fun i hi e => (old i hi).trans e), h6.trans (c2.below h6.size (fun i hi e => ?_)), fun i hi => ?_⟩, c3⟩
  · have := h7 i (by omega); omega
  · rcases Nat.lt_or_ge i w.heap.size with g | g
    · rw [old i g] at hi; exact h7 i hi
    · exact Nat.le_trans h6.size g
theorem Nw.done (h : Nw W w B o vs (lsW (ps ++ [P]) (qs ++ [Q]) gl gm il im) ps qs xs gl gm il im m P Q y) (hF : WF n m ps qs xs gl gm il im) (hn : n ≤ n') (hm : m + 1 ≤ n' + 2) (hy : Stn y n') : WI W w B n' (m + 1) := by
  obtain ⟨h1, hk, h2, h3, h4, h6, h7⟩ := h
  have hF' := hF.mono hn
  refine ⟨ps ++ [P], qs ++ [Q], xs ++ [y], gl, gm, il, im, o, vs, ⟨by rw [List.length_append, hF.p]; rfl, by rw [List.length_append, hF.q]; rfl, by rw [List.length_append, hF.x]; rfl, hm, fun z hz => ?_, hF.g, hF'.g4, hF.i, hF'.i8⟩, h1, hk, fun i P' Q' z g1 g2 g3 _ => ?_, h6, h7⟩
  · rcases List.mem_append.1 hz with e | e
    · exact hF'.st z e
    · rw [List.mem_singleton.1 e]; exact hy
  · rcases Nat.lt_or_ge i m with c | c
    · rw [List.getElem?_append_left (by rw [hF.p]; exact c)] at g1
      rw [List.getElem?_append_left (by rw [hF.q]; exact c)] at g2
      rw [List.getElem?_append_left (by rw [hF.x]; exact c)] at g3
      exact h2 i P' Q' z g1 g2 g3 c
    · have e : i = m := by
        have := (List.getElem?_eq_some_iff.1 g3).1
        rw [List.length_append, hF.x] at this
        simp at this
        omega
      subst e
      rw [List.getElem?_append_right (by rw [hF.p]; exact Nat.le_refl _), hF.p, Nat.sub_self] at g1
      rw [List.getElem?_append_right (by rw [hF.q]; exact Nat.le_refl _), hF.q, Nat.sub_self] at g2
      rw [List.getElem?_append_right (by rw [hF.x]; exact Nat.le_refl _), hF.x, Nat.sub_self] at g3
      have e1 : P = P' := by simpa using g1
      have e2 : Q = Q' := by simpa using g2
      have e3 : y = z := by simpa using g3
      rw [← e1, ← e2, ← e3]
      exact ⟨h3, h4⟩
/-- The new pair. -/
theorem nw_start (hg : GlA W a a0 a1) {F : Nat → Prop} {ow : Whose} {vf vp vb : Value} {g : Nat} (hc : WdC w B o vs ls) (hk : Mks w o gl gm il im) (hl : Lns W w o ps qs xs (fun _ => True)) (h6 : Below W.heap.size W w) (h7 : ∀ i, o i ≠ 0 → W.heap.size ≤ i)
    (hb1 : Below w.heap.size w w1) (hb2 : Below w1.heap.size w1 w2) (hb3 : Below w2.heap.size w2 w3) (hb4 : Below w.heap.size w w4) (hO4 : Only (fun i => i = g) w3 w4) (hgw : w.heap.size ≤ g) (hg1 : g < w1.heap.size) (hL : LinR W w2 P y F) (hF : ∀ i, F i → w1.heap.size ≤ i) (hV : RefV w3 Q y ow vf vp vb) (hV2 : ∀ i, ow i ≠ 0 → w2.heap.size ≤ i) :
    ∃ o', Nw W w4 B o' vs ls ps qs xs gl gm il im m P Q y := by
  have s1 := hb1.size
  have s2 := hb2.size
  have s3 := hb3.size
  have s4 := hO4.size
  have hO : Only (fun _ => False) w w4 := Only.of_below hb4
  have nF : ¬ F g := fun c => by have := hF g c; omega
  have hlt := linr_lt hg hL
  refine ⟨(o.give w1.heap.size w2.heap.size (9 + 2 * m)).give w2.heap.size w3.heap.size (10 + 2 * m), ?_⟩
  have old : ∀ i, i < w.heap.size → (o.give w1.heap.size w2.heap.size (9 + 2 * m)).give w2.heap.size w3.heap.size (10 + 2 * m) i = o i := fun i hi => (give_old (by omega)).trans (give_old (by omega))
  refine ⟨hc.keep hO (fun _ k => k.elim) (fun i hi _ _ => old i hi) (fun i hi => ?_), hk.keep hO (fun _ k => k.elim) (fun i hi e => (old i hi).trans e), ?_, ⟨F, ?_, fun i hi => ?_⟩, ⟨_, vf, vp, vb, hV.only hO4 (fun i e => ?_), fun i hi => ?_⟩, h6.trans (hb4.mono h6.size), fun i hi => ?_⟩
  · show (if w2.heap.size ≤ i ∧ i < w3.heap.size then _ else if w1.heap.size ≤ i ∧ i < w2.heap.size then _ else o i) = 0
    rw [if_neg (by omega), if_neg (by omega)]
    exact hc.fr i (by omega)
  · have q := hl.keep hg hO (fun _ k => k.elim) (fun i hi _ _ _ => old i hi)
    exact fun i P Q x g1 g2 g3 _ => q i P Q x g1 g2 g3 trivial
  · exact (lineL hg).keep (hL.stay hb3) hO4 (fun i e c => nF (by rw [← e]; exact c))
  · rw [give_old (hlt i hi).2]
    exact give_new (hF i hi) (hlt i hi).2
  · exact Classical.byContradiction fun c => by have := hV2 i c; omega
  · rcases Nat.lt_or_ge i w3.heap.size with c | c
    · rw [give_old c] at hi
      exact give_new (hV2 i hi) c
    · exfalso
      apply hi
      unfold Whose.give
      split
      · rfl
      · exact hV.fr i c
  · rcases Nat.lt_or_ge i w.heap.size with c | c
    · rw [old i c] at hi; exact h7 i hi
    · exact Nat.le_trans h6.size c
end
end Go.Proofs.YtcnmajndackohaaGreatDoor
/-
  What the law's news does: one line more, just where the document has one.
-/
namespace Go.Proofs.YtcnmajndackohaaGreatDoor
open Go.RowKit
attribute [local go_sem ↓] Go.wp_at_zero Go.wp_at_succ
theorem infoLp : (Tryz.prog.info? 54).map (fun i => (i.zero, i.size, i.bytes)) = some (some (.pointer none), 1, 8) := by kernel_rfl
theorem infoLq : (Tryz.prog.info? 75).map (fun i => (i.zero, i.size, i.bytes)) = some (some (.pointer none), 1, 8) := by kernel_rfl
set_option maxRecDepth 100000 in
set_option maxHeartbeats 4000000 in
theorem news_bad {W w : World} {B n m : Nat} {a : Nat → Addr} {a0 a1 : Addr} (hg : GlA W a a0 a1) (h : WI W w B n m) (v : Value) (l : List Fl) (hv : Fls w v l) (hl : l.length * 40 ≤ 140737488351232) (ha : allB l = false) :
    Calls Tryz.prog 13 #[.pointer (some ⟨B, 0, none⟩), v] w fun e w' => e = .returned (.bool true) ∧ WI W w' B n m := by
  obtain ⟨la, lc, rfl⟩ := Fls.form hv
  have HG := hide (hg.below h.bel)
  have HG0 := hide hg
  have HF := hide hv
  have HA := hide ha
  have HH := hide h
  have HL := hide hl
  obtain ⟨N, hN⟩ : ∃ N, l.length = N := ⟨_, rfl⟩
  have HN := hide hN
  have hn1 : (N : Int) ≤ 140737488351232 := by omega
  have hn0 : (0 : Int) ≤ (N : Int) := Int.natCast_nonneg _
  rw [hN] at HF ⊢
  clear hg h hv ha hl hN
  go_enter Tryz.func13, Tryz.ntmps13
  go_wp2_with fail
  have hlend := lend_F (.slice la N lc) l w (unhide HF) (by have := unhide HL; omega)
  rw [unhide HN] at hlend
  refine hlend.mono ?_
  clear hlend
  rintro e w1 ⟨rfl, hblk, hb⟩
  have hz := hb.size
  have HB := hide hb
  have HBlk := hide hblk
  clear hb hblk
  go_wp2_with fail
  refine (pnew_bad _ l a0 a1 w1 ((unhide HG).below (unhide HB)).g (.inr ⟨w.heap.size, 0, N + 8, by rw [unhide HN], lies_prefix (unhide HBlk).lies⟩) (by rw [unhide HN]; unfold maxLen; omega) (unhide HA)).mono ?_
  rintro e w2 ⟨rfl, hb2⟩
  have HBlk2 := hide ((unhide HBlk).below hb2)
  have HB2 := hide (bel_then (unhide HB) hb2)
  clear hb2 HBlk HB
  go_wp2_with fail
  refine (rnew_bad _ l w2 ((unhide HF).below (unhide HB2)) (by rw [unhide HN]; unfold maxLen; omega) (unhide HA)).mono ?_
  rintro e w3 ⟨rfl, hb3⟩
  have HBlk3 := hide ((unhide HBlk2).below hb3)
  have HB3 := hide (bel_then (unhide HB2) hb3)
  clear hb3 HBlk2 HB2
  go_wp2_with fail
  have hret := returned_O w w.heap.size (N + 8) (.slice la N lc) l w3 (unhide HF) (Nat.le_refl _) (unhide HB3) (unhide HBlk3) (by have := unhide HL; omega)
  rw [unhide HN] at hret
  refine hret.mono ?_
  rintro e w4 ⟨rfl, hb4, -⟩
  have HB4 := hide hb4
  clear hb4 hret
  go_wp2_with fail
  refine (num_any 1 _).mono ?_
  rintro e w5 ⟨rfl, rfl⟩
  go_wp2_with fail
  go_ret
  exact ⟨rfl, (unhide HH).below (unhide HG0) (unhide HB4)⟩
set_option maxRecDepth 100000 in
set_option maxHeartbeats 4000000 in
theorem news_good {W w : World} {B n n' m : Nat} {a : Nat → Addr} {a0 a1 : Addr} (hg : GlA W a a0 a1) (h : WI W w B n m) (v : Value) (l : List Fl) (hv : Fls w v l) (hl : l.length * 40 ≤ 140737488351232) (ha : allB l = true) (hn : n ≤ n') (hm : m + 1 ≤ n' + 2) (hn9 : n' ≤ 1100000) :
    Calls Tryz.prog 13 #[.pointer (some ⟨B, 0, none⟩), v] w fun e w' => e = .returned (.bool true) ∧ WI W w' B n' (m + 1) := by
  obtain ⟨la, lc, rfl⟩ := Fls.form hv
  obtain ⟨h6, hmay⟩ : l.length ≤ 6 ∧ ∀ f ∈ l, f.may := by
    unfold allB at ha
    have hp : l.all Fl.mayB = true ∧ l.length ≤ 6 := by simpa using ha
    exact ⟨hp.2, all_may hp.1⟩
  obtain ⟨i0, hi0, hz0, hz1, hz2⟩ := info_anyR infoLp
  obtain ⟨i1, hi1, hy0, hy1, hy2⟩ := info_anyR infoLq
  have HI0 := hide hi0
  have HZ0 := hide hz0
  have HZ1 := hide hz1
  have HZ2 := hide hz2
  have HI1 := hide hi1
  have HY0 := hide hy0
  have HY1 := hide hy1
  have HY2 := hide hy2
  have hbW := h.bel
  have HG := hide hg
  have HF := hide hv
  have HA := hide ha
  have H6 := hide h6
  have HMay := hide hmay
  obtain ⟨ps, qs, xs, gl, gm, il, im, o, vs, hWF, hc, hk, hln, -, h7⟩ := h
  have HWF := hide hWF
  have HC := hide hc
  have HK := hide hk
  have HLn := hide hln
  have HW := hide hbW
  have H7 := hide h7
  have HHn := hide hn
  have HHm := hide hm
  obtain ⟨N, hN⟩ : ∃ N, l.length = N := ⟨_, rfl⟩
  have HN := hide hN
  have hm9 : m ≤ 1100002 := by have := hWF.m; omega
  have hn1 : (N : Int) ≤ 6 := by omega
  have hn0 : (0 : Int) ≤ (N : Int) := Int.natCast_nonneg _
  rw [hN] at HF ⊢
  clear hg hv ha hl hN h6 hmay hi0 hz0 hz1 hz2 hi1 hy0 hy1 hy2 hbW hWF hc hk hln h7 hn hm hn9
  go_enter Tryz.func13, Tryz.ntmps13
  go_wp2_with fail
  have hlend := lend_F (.slice la N lc) l w (unhide HF) (by have := unhide H6; omega)
  rw [unhide HN] at hlend
  refine hlend.mono ?_
  clear hlend
  rintro e w1 ⟨rfl, hblk, hb⟩
  have hz := hb.size
  have HB := hide hb
  have HBlk := hide hblk
  clear hb hblk
  go_wp2_with fail
  refine ((lineL (unhide HG)).new w1 _ l ((unhide HW).trans ((unhide HB).mono (unhide HW).size)) (.inr ⟨w.heap.size, 0, N + 8, by rw [unhide HN], lies_prefix (unhide HBlk).lies⟩) (unhide HMay) (unhide H6)).mono ?_
  rintro e w2 ⟨P, F, rfl, hL, hF, hb2⟩
  have HBlk2 := hide ((unhide HBlk).below hb2)
  have HB2 := hide (bel_then (unhide HB) hb2)
  have HL2 := hide hL
  have HF2 := hide hF
  have HBa := hide hb2
  have hg1 := (unhide HBlk).lt
  clear hb2 HBlk hL hF
  go_wp2_with fail
  refine (rnew_F _ l w2 ((unhide HF).below (unhide HB2)) (unhide H6) (unhide HA)).mono ?_
  rintro e w3 ⟨Q, ow, vf, vp, vb, rfl, hV, hV2, hb3⟩
  have HBlk3 := hide ((unhide HBlk2).below hb3)
  have HB3 := hide (bel_then (unhide HB2) hb3)
  have HV3 := hide hV
  have HV4 := hide hV2
  have HBb := hide hb3
  clear hb3 HBlk2 HB2 hV hV2
  go_wp2_with fail
  have hret := returned_O w w.heap.size (N + 8) (.slice la N lc) l w3 (unhide HF) (Nat.le_refl _) (unhide HB3) (unhide HBlk3) (by have := unhide H6; omega)
  rw [unhide HN] at hret
  refine hret.mono ?_
  rintro e w4 ⟨rfl, hb4, hO4⟩
  obtain ⟨o4, hNw⟩ := nw_start (m := m) (unhide HG) (unhide HC) (unhide HK) (unhide HLn) (unhide HW) (unhide H7) (unhide HB) (unhide HBa) (unhide HBb) hb4 hO4 (Nat.le_refl _) hg1 (unhide HL2) (unhide HF2) (unhide HV3) (unhide HV4)
  have HNw := hide hNw
  obtain ⟨a2, c2, e2⟩ := hNw.1.len 0 (by decide)
  obtain ⟨a3, c3, e3⟩ := hNw.1.len 1 (by decide)
  rw [show (lsW ps qs gl gm il im 0).length = m from by show (ptrs ps).length = m; unfold ptrs; rw [List.length_map]; exact (unhide HWF).p] at e2
  rw [show (lsW ps qs gl gm il im 1).length = m from by show (ptrs qs).length = m; unfold ptrs; rw [List.length_map]; exact (unhide HWF).q] at e3
  have q0 : w4.cell? ⟨B, 0, none⟩ = some (.slice a2 m c2) := by rw [← e2]; exact hNw.1.blk.cell (j := 0) rfl
  have HR0 := hide (show w4.ownsRow 0 54 1 (.slice a2 m c2) m (ptrs ps) from by
    have h1 := (hNw.1.rw 0 (by decide)).1
    have h2 : w4.ownsRow 0 54 1 (vs 0) (ptrs ps).length (ptrs ps) := h1
    rw [e2, show (ptrs ps).length = m from by unfold ptrs; rw [List.length_map]; exact (unhide HWF).p] at h2
    exact h2)
  have HE2 := hide e2
  have HE3 := hide e3
  clear hb4 hO4 hret hNw e2 e3 HL2 HF2 HV3 HV4 HBa HBb HB HBlk3 HC HK HLn HW H7 HB3
  go_wp2_with fail
  refine (num_any 0 _).mono ?_
  rintro e w5 ⟨rfl, rfl⟩
  go_wp2_with (at_builtin; refine wpList_append_lies _ (by rfl) _ _ 24 (by rfl) 0 54 i0 _ 1 8 Tryz.underlying24 (unhide HI0) (unhide HZ0) (unhide HZ1) (unhide HZ2) rfl (by omega) _ m (ptrs ps) (by rfl) ((unhide HR0).alloc _) ⟨w5.heap.size, 0, none⟩ 1 1 [.pointer (some ⟨P, 0, none⟩)] (by rfl) (by rfl) (World.news_of_block (cs := #[.pointer (some ⟨P, 0, none⟩)]) (t := 54) (fr := (0, 0)) (heap_alloc_new w5 _)) (by simp [Value.oneCell']) (by omega) (by unfold maxLen; omega) (by omega) (Nat.zero_le _) (w5.heap.size + 1) (by simp) ?_)
  intro g6 cap6 w6 hown hgrow hat hlt6
  have hX1 := (unhide HNw).grow (unhide HG) (j := 0) (u := .pointer (some ⟨P, 0, none⟩)) (v' := .slice (some ⟨g6, 0, none⟩) (m + 1) cap6) (by decide) (bel_one _) (by
    show w6.ownsRow 0 54 1 _ ((ptrs ps).length + 1) (ptrs ps ++ [_])
    rw [show (ptrs ps).length = m from by unfold ptrs; rw [List.length_map]; exact (unhide HWF).p]
    exact hown) (by rw [unhide HE2]; exact hgrow) (fun g' hg' => by
      rw [unhide HE2]
      exact hat.imp (fun e => e.trans hg') (fun e => by have e' : g6 = g' := Option.some.inj hg'; omega))
  rw [lsW0] at hX1
  have c6 : w6.cell? ⟨B, 0, none⟩ = some (vs 0) := hX1.2.cell (j := 0) rfl
  have z6 := hX1.2.frozen 0
  have HX1 := hide hX1.1
  have q1 : (w6.setCell ⟨B, 0, none⟩ (.slice (some ⟨g6, 0, none⟩) (m + 1) cap6)).cell? ⟨B, 1, none⟩ = some (.slice a3 m c3) := by rw [← unhide HE3]; exact hX1.1.1.blk.cell (j := 1) rfl
  have HR1 := hide (show (w6.setCell ⟨B, 0, none⟩ (.slice (some ⟨g6, 0, none⟩) (m + 1) cap6)).ownsRow 0 75 1 (.slice a3 m c3) m (ptrs qs) from by
    have h1 := (hX1.1.1.rw 1 (by decide)).1
    have h2 : (w6.setCell ⟨B, 0, none⟩ (.slice (some ⟨g6, 0, none⟩) (m + 1) cap6)).ownsRow 0 75 1 (vs 1) (ptrs qs).length (ptrs qs) := h1
    rw [unhide HE3, show (ptrs qs).length = m from by unfold ptrs; rw [List.length_map]; exact (unhide HWF).q] at h2
    exact h2)
  clear hX1 hown hgrow hat hlt6 q0 HR0 HNw
  go_wp2_with (at_builtin; refine wpList_append_lies _ (by rfl) _ _ 25 (by rfl) 0 75 i1 _ 1 8 Tryz.underlying25 (unhide HI1) (unhide HY0) (unhide HY1) (unhide HY2) rfl (by omega) _ m (ptrs qs) (by rfl) ((unhide HR1).alloc _) ⟨w6.heap.size, 0, none⟩ 1 1 [.pointer (some ⟨Q, 0, none⟩)] (by rfl) (by rfl) (World.news_of_block (cs := #[.pointer (some ⟨Q, 0, none⟩)]) (t := 75) (fr := (0, 0)) (by have := heap_alloc_new (w6.setCell ⟨B, 0, none⟩ (.slice (some ⟨g6, 0, none⟩) (m + 1) cap6)) (.cells #[.pointer (some ⟨Q, 0, none⟩)] 75); rwa [set_sz] at this)) (by simp [Value.oneCell']) (by omega) (by unfold maxLen; omega) (by omega) (Nat.zero_le _) (w6.heap.size + 1) (by simp) ?_)
  generalize hw7 : w6.setCell ⟨B, 0, none⟩ (.slice (some ⟨g6, 0, none⟩) (m + 1) cap6) = w7 at *
  have hs7 : w7.heap.size = w6.heap.size := by rw [← hw7, set_sz]
  intro g8 cap8 w8 hown hgrow hat hlt8
  have hX2 := (unhide HX1).grow (unhide HG) (j := 1) (u := .pointer (some ⟨Q, 0, none⟩)) (v' := .slice (some ⟨g8, 0, none⟩) (m + 1) cap8) (by decide) (bel_one _) (by
    show w8.ownsRow 0 75 1 _ ((ptrs qs).length + 1) (ptrs qs ++ [_])
    rw [show (ptrs qs).length = m from by unfold ptrs; rw [List.length_map]; exact (unhide HWF).q]
    exact hown) (by show (w7.alloc _).grownBy w8 (vs 1).ownBlock; rw [unhide HE3]; exact hgrow) (fun g' hg' => by
      show (vs 1).ownBlock = _ ∨ _
      rw [unhide HE3]
      exact hat.imp (fun e => e.trans hg') (fun e => by have e' : g8 = g' := Option.some.inj hg'; omega))
  rw [lsW1] at hX2
  have c8 : w8.cell? ⟨B, 1, none⟩ = some (vs 1) := hX2.2.cell (j := 1) rfl
  have z8 := hX2.2.frozen 1
  have HX2 := hide (hX2.1.done (unhide HWF) (unhide HHn) (unhide HHm) ((stn_new (unhide HMay) (unhide H6)).mono (Nat.zero_le _)))
  clear hX2 hown hgrow hat hlt8 q1 HR1 HX1 c6 z6 hw7
  go_wp2_with fail
  go_ret
  exact ⟨rfl, unhide HX2⟩
end Go.Proofs.YtcnmajndackohaaGreatDoor
