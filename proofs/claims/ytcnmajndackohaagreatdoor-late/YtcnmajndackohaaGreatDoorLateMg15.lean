import Derived.Test.YtcnmajndackohaaGreatDoorLateMg14
/-
  Plain: what of a play has gone is in time, where its flows fit.
-/
namespace Go.Proofs.YtcnmajndackohaaGreatDoor
open Go.RowKit

/-- A packet's flow and tick are no less than -1. -/
def Flw (x : Ln) : Prop := ∀ p ∈ x.pk, -1 ≤ p.flow ∧ -1 ≤ p.ready
theorem flw_sk {x y : Ln} (h : Flw x) (e : y.pk.map Pk.sk = x.pk.map Pk.sk) : Flw y := fun p hp => by
  have : p.sk ∈ x.pk.map Pk.sk := by rw [← e]; exact List.mem_map.2 ⟨p, hp, rfl⟩
  obtain ⟨q, hq, e⟩ := List.mem_map.1 this
  have h1 : q.flow = p.flow := congrArg Sk.flow e
  have h2 : q.ready = p.ready := congrArg Sk.ready e
  have := h q hq
  omega
theorem flw_push {x : Ln} (h : Flw x) {k size r : Int} (hk : -1 ≤ k) (hr : -1 ≤ r) : Flw (x.push k size r) := fun p hp => by
  rcases List.mem_append.1 (show p ∈ x.pk ++ [_] from hp) with q | q
  · exact h p q
  · rw [List.mem_singleton.1 q]; exact ⟨hk, hr⟩
theorem flw_send {x : Ln} (h : Flw x) (hn : 0 ≤ x.now) (k size : Int) : Flw (x.send k size).2 := by
  refine send_cases (P := Flw) h fun st ha _ _ => flw_push h (by have := (at_some ha).1; omega) ?_
  unfold Ln.readyAt
  have := latest_ge k x.pk x.now
  rcases seekR_spec (conf st.f k size (x.pk.map Pk.sk).reverse) 401 (latest k x.now x.pk) with e | ⟨e, _⟩ <;> omega
theorem flw_other {x : Ln} (h : Flw x) (hn : 0 ≤ x.now) (size : Int) : Flw (x.other size).2 := other_cases (P := Flw) h fun _ => flw_push h (by decide) (by omega)
theorem flw_run {x : Ln} (h : Flw x) (t : Int) : Flw (x.run t).2 := by
  unfold Ln.run
  split
  · exact h
  · exact flw_sk h (ticks_sk _ _).2.1
theorem flw_gone {x : Ln} (h : Flw x) : Flw x.gone.2 := flw_sk h (untold_sk _ _ (gone_untold _ _ _))
/-- What has gone of a line whose numbers are not too great is calm. -/
theorem gone_calm {x : Ln} {n : Nat} (h : Lnv x) (hf : Flw x) (hs : Sml x n) (hn : n ≤ 1000000) (hl : x.fl.length ≤ 1000000) : ∀ p ∈ x.gone.1, calm p := by
  intro p hp
  obtain ⟨q, hq, e, h0, h1⟩ := gone_mem x.now x.began x.pk h.bg p hp
  have e1 : q.flow = p.flow := show (untold q).flow = (untold p).flow from by rw [e]
  have e2 : q.ready = p.ready := show (untold q).ready = (untold p).ready from by rw [e]
  have e3 : q.size = p.size := show (untold q).size = (untold p).size from by rw [e]
  have a := hf q hq
  have b := hs.rd q hq
  have c := hs.now
  have d := h.sz q hq
  have f : q.flow ≤ 1000000 := by
    by_cases g : 0 ≤ q.flow
    · have := h.own q hq g
      omega
    · omega
  refine ⟨by omega, by omega, by omega, by omega, by omega, by omega⟩
/-- How a play stands whose line is in order. -/
structure Gst (s : Pst) : Prop where
  lnv : Lnv s.x
  flw : Flw s.x
  calm : ∀ p ∈ s.gone, calm p
/-- And in time. -/
structure Tim (s : Pst) : Prop extends Gst s where
  lgd : Lgd s.x
  due : ∀ p ∈ s.gone, lateB s.fl p = false
theorem late_no {s : Pst} {y : Ln} (hy : y.fl.map Stt.f = s.fl) {p : Pk} (h : 0 ≤ p.flow → p.flow.toNat < y.fl.length ∧ p.start + p.size ≤ p.ready + dueOf y.fl p.flow) : lateB s.fl p = false := by
  unfold lateB
  have hlen : y.fl.length = s.fl.length := by rw [← hy, List.length_map]
  by_cases g : 0 ≤ p.flow
  · obtain ⟨h1, h2⟩ := h g
    cases hq : y.fl[p.flow.toNat]? with
    | none => rw [List.getElem?_eq_none_iff] at hq; omega
    | some st =>
      have e1 : s.fl[p.flow.toNat]? = some st.f := by rw [← hy, List.getElem?_map, hq]; rfl
      have e2 : dueOf y.fl p.flow = st.f.d := by unfold dueOf; rw [hq]
      rw [e2] at h2
      simp only [e1, Bool.or_eq_false_iff, decide_eq_false_iff_not, Bool.and_eq_false_imp, decide_eq_true_eq]
      exact ⟨by omega, fun _ => by omega⟩
  · simp only [Bool.or_eq_false_iff, decide_eq_false_iff_not, Bool.and_eq_false_imp, decide_eq_true_eq]
    exact ⟨by omega, fun c => absurd c g⟩
theorem Tim.runs {s : Pst} {n : Nat} (h : Tim s) (hp : Pin s) (hb : Bnd s n) (hn : n < 1000) (hf : s.fl.length ≤ 100000) (t : Int) : Tim (s.runs t) := by
  have hL := h.lnv.run t
  have hG := lgd_run h.lnv h.lgd t
  have hF := flw_run h.flw t
  have hs := hb.x.run t
  have hy : (s.x.run t).2.fl.map Stt.f = s.fl := (hp.runs t).fl
  have hlen : (s.x.run t).2.fl.length = s.fl.length := by rw [← hy, List.length_map]
  refine ⟨⟨hL.gone, flw_gone hF, fun p hp' => ?_⟩, lgd_gone hG, fun p hp' => ?_⟩
  · rcases List.mem_append.1 (show p ∈ s.gone ++ _ from hp') with q | q
    · exact h.calm p q
    · exact gone_calm hL hF hs (by omega) (by omega) p q
  · rcases List.mem_append.1 (show p ∈ s.gone ++ _ from hp') with q | q
    · exact h.due p q
    · exact late_no hy (gone_due hL hG p q)
theorem Tim.oth {s : Pst} (h : Tim s) (z : Int) : Tim (s.oth z) := ⟨⟨h.lnv.other z, flw_other h.flw h.lnv.n0 z, h.calm⟩, lgd_other h.lgd z, h.due⟩
theorem Tim.snd {s : Pst} (h : Tim s) (k : Nat) (z : Int) : Tim (s.snd k z) := ⟨⟨h.lnv.send k z, flw_send h.flw h.lnv.n0 k z, h.calm⟩, lgd_send h.lnv h.lgd k z, h.due⟩
theorem Tim.act {s : Pst} {n : Nat} (h : Tim s) (hp : Pin s) (hb : Bnd s n) (hn : n < 1000) (hf : s.fl.length ≤ 100000) (q : Stp) : Tim (s.act q) := by
  unfold Pst.act
  split
  · split
    · exact h.snd _ _
    · exact h
  · split
    · exact h.oth _
    · split
      · exact h.runs hp hb hn hf _
      · exact h
theorem acts_tim {s : Pst} {n : Nat} (h : Tim s) (hp : Pin s) (hb : Bnd s n) (hf : s.fl.length ≤ 100000) (l : List Stp) : n + l.length ≤ 1000 → Tim (s.acts l) := by
  induction l generalizing s n with
  | nil => intro _; exact h
  | cons q l ih =>
    intro hl
    simp only [List.length_cons] at hl
    exact ih (h.act hp hb (by omega) hf q) (hp.act q) (hb.act (by omega) q) (by rw [act_fl]; exact hf) (by omega)
theorem runs_fl (s : Pst) (t : Int) : (s.runs t).fl = s.fl := rfl
theorem drain_tim {s : Pst} {n : Nat} (h : Tim s) (hp : Pin s) (hb : Bnd s n) (hf : s.fl.length ≤ 100000) : ∀ k, n + k ≤ 1000 → Tim (s.drain k) := by
  intro k
  induction k generalizing s n with
  | zero => intro _; exact h
  | succ k ih =>
    intro hk
    have hr := h.runs hp hb (by omega) hf 100
    unfold Pst.drain
    split
    · exact hr
    · exact ih (n := n + 1) hr (hp.runs 100) (hb.runs (by omega) 100) (by rw [runs_fl]; exact hf) (by omega)
theorem drain_fl : ∀ (k : Nat) (s : Pst), (s.drain k).fl = s.fl
  | 0, _ => rfl
  | k + 1, s => by
    unfold Pst.drain
    split
    · exact runs_fl s 100
    · exact (drain_fl k (s.runs 100)).trans (runs_fl s 100)
end Go.Proofs.YtcnmajndackohaaGreatDoor
/-
  What InTime does, whatever memory a line has.
-/
namespace Go.Proofs.YtcnmajndackohaaGreatDoor
open Go.RowKit

set_option maxRecDepth 100000 in
set_option maxHeartbeats 1000000 in
theorem set_nil (a : Option Addr) (c : Nat) (w : World) :
    Calls Tryz.prog 16 #[.slice a 0 c] w fun e w' => e = .returned (.slice none 0 0) ∧ w' = w := by
  go_enter Tryz.func16, Tryz.ntmps16
  go_wp2_with fail
  go_rounds 1
  go_ret
  exact ⟨rfl, rfl⟩
theorem set_F (v : Value) (l : List Fl) (a0 a1 : Addr) (w : World) (hg : Gl w a0 a1) (hw : Fls w v l) (hr : ∀ f ∈ l, Raw f) (hl : l.length ≤ maxLen) :
    Calls Tryz.prog 16 #[v] w fun e w' => ∃ v L, e = .returned v ∧ Own w' w.heap.size v L ∧ Fits6 L ∧ Below w.heap.size w w' := by
  rcases hw with ⟨rfl, a, c, rfl⟩ | ⟨b, o, c, rfl, h⟩
  · refine (set_nil a c w).mono ?_
    rintro e w' ⟨rfl, rfl⟩
    exact ⟨_, [], rfl, World.ownsRow_nil _ _ _ _, ⟨(fun f hf => by cases hf), Nat.zero_le _, (by decide +kernel)⟩, Below.refl _ _⟩
  · exact set_some b o c l a0 a1 w hg h hr hl

theorem tim_pst {L : List Fl} (h : Fits6 L) : Tim (pst L) :=
  ⟨⟨lnv_new h.may, (fun p hp => by cases hp), (fun p hp => by cases hp)⟩, lgd_new h.may h.fit, (fun p hp => by cases hp)⟩
theorem pst_fl (L : List Fl) : (pst L).fl = L := by show L.take L.length = L; rw [List.take_length]
theorem drain_bnd {s : Pst} {n : Nat} (hb : Bnd s n) : ∀ k, n + k ≤ 1000 → Bnd (s.drain k) (n + k) := by
  intro k
  induction k generalizing s n with
  | zero => intro _; exact hb
  | succ k ih =>
    intro hk
    have hr := hb.runs (by omega) 100
    unfold Pst.drain
    split
    · exact hr.mono (by omega)
    · have := ih (n := n + 1) hr (by omega)
      exact this.mono (by omega)
/-- What is left of a script without the calls that come later. -/
theorem intime_end {L : List Fl} (h : Fits6 L) (l : List Stp) : ((pst L).acts (l.take 100)).drain 100 = ((pst L).acts (l.take 100)).drain 100 ∧ (((pst L).acts (l.take 100)).drain 100).gone.all (fun p => !lateB (((pst L).acts (l.take 100)).drain 100).fl p) = true ∧ (∀ p ∈ (((pst L).acts (l.take 100)).drain 100).gone, calm p) ∧ (∀ f ∈ (((pst L).acts (l.take 100)).drain 100).fl, f.may) ∧ (((pst L).acts (l.take 100)).drain 100).gone.length ≤ 1000000000 := by
  have hf : (pst L).fl.length ≤ 100000 := by rw [pst_fl]; have := h.len; omega
  have hl : (l.take 100).length ≤ 100 := by rw [List.length_take]; omega
  have hb := (acts_bnd (pst_bnd L) (l.take 100) (by omega)).mono (show 0 + (l.take 100).length ≤ 100 by omega)
  have hp := acts_pin (pst_pin h.may) (l.take 100)
  have ht := acts_tim (tim_pst h) (pst_pin h.may) (pst_bnd L) hf (l.take 100) (by omega)
  have hf2 : ((pst L).acts (l.take 100)).fl.length ≤ 100000 := by rw [acts_fl]; exact hf
  have hd := drain_tim ht hp hb hf2 100 (by omega)
  refine ⟨rfl, ?_, hd.calm, ?_, ?_⟩
  · rw [List.all_eq_true]
    intro p hp'
    rw [hd.due p hp']; rfl
  · rw [drain_fl, acts_fl, pst_fl]; exact h.may
  · have := (drain_bnd hb 100 (by omega)).go
    omega

set_option maxRecDepth 100000 in
set_option maxHeartbeats 2000000 in
theorem intime_some (W : World) (KK : ∀ W', Below W.heap.size W W' → ∃ R, LineK W' R) (a0 a1 : Addr) (hg : Gl W a0 a1) (vr : Value) (lr : List Fl) (hr : Fls W vr lr) (hraw : ∀ f ∈ lr, Raw f) (hrl : lr.length ≤ maxLen) (g o c : Nat) (l : List Stp) (hl : StLies W g o l) (hq : ∀ q ∈ l, q.raw) (hln : l.length ≤ maxLen) (hcap : l.length ≤ c) :
    Calls Tryz.prog 5 #[vr, .slice (some ⟨g, o, none⟩) l.length c] W fun e w' => e = .returned (.bool true) ∧ Below W.heap.size W w' := by
  have HKn := hide (known_any W fun W' h => let ⟨R, k⟩ := KK W' h; ⟨R, k.toLineJ⟩)
  have HKK := hide KK
  have HSt := hide (fun (w : World) (hb : Below W.heap.size W w) => set_F vr lr a0 a1 w (hg.below hb) (hr.below hb) hraw hrl)
  have HL := hide hl
  have HQ := hide hq
  unfold maxLen at hln
  generalize hn : l.length = n at *
  have HN := hide hn
  have hn1 : (n : Int) ≤ 9223372036854775807 := by omega
  clear KK hg hr hraw hrl hl hq hn
  go_enter Tryz.func5, Tryz.ntmps5
  go_wp2_with fail
  refine (unhide HKn).mono ?_
  rintro e w1 ⟨rfl, hb1⟩
  have HB1 := hide hb1
  clear hb1
  go_wp2_with fail
  refine (unhide HSt w1 (unhide HB1)).mono ?_
  rintro e w2 ⟨v, L, rfl, hown, hfit, hb2⟩
  have HB2 := hide (bel_then (unhide HB1) hb2)
  have HF := hide hfit
  obtain ⟨R, K⟩ := unhide HKK w2 (unhide HB2)
  have HK := hide K
  have HPl := hide (play_F w2 K.toLineJ v L hown.fls hfit.may hfit.len)
  clear hown hfit hb2 K
  go_wp2_with fail
  refine (unhide HPl).mono ?_
  rintro e w3 ⟨b, rfl, hp3⟩
  have HP3 := hide hp3
  have HB3 := hide (bel_then (unhide HB2) hp3.bel)
  clear hp3 HPl
  go_wp2_with fail
  go_loopw [1, 7] (fun v i wr => wr = w3 ∧ ∃ (k m : Nat), i = .int .i64 k ∧ v = .slice (some ⟨g, o, none⟩) m c ∧ m ≤ n ∧ (∀ j, j < m → j < k → ∀ q, l[j]? = some q → q.kind ≤ 3) ∧ ((m = n ∧ k ≤ n) ∨ k = m + 1)) (fun _ i _ => n + 1 - (intOf i).toNat)
  case atStart => exact ⟨rfl, 0, n, rfl, rfl, Nat.le_refl _, fun j _ h => by omega, .inl ⟨rfl, Nat.zero_le _⟩⟩
  case round =>
    obtain ⟨rfl, k, m, rfl, rfl, hm, hk3, hkm⟩ := hrel
    have HK3 := hide hk3
    clear hk3
    by_cases hx : k < m
    · have hmn : m = n := by omega
      subst hmn
      have hkl : k < l.length := by rw [unhide HN]; exact hx
      have hki : (k : Int) < (m : Int) := by omega
      have hkc : (k : Int) ≤ (c : Int) := by omega
      have hkc2 : k ≤ c := by omega
      have hc := ((unhide HL).below (unhide HB3)).c k hkl
      have c0 := hc.1
      have HQk := hide (List.getElem?_eq_getElem hkl)
      generalize l[k] = q at *
      clear hc
      by_cases h3 : 3 < q.kind
      · go_wp2_with fail
        go_roundw
        case rel => exact ⟨by first | rfl | trivial, k + 1, k, by go_num, rfl, by omega, fun j hj _ => unhide HK3 j (by omega) hj, .inr rfl⟩
        case measure => simp [intOf]; omega
      · go_wp2_with fail
        go_roundw
        case rel => exact ⟨by first | rfl | trivial, k + 1, m, by go_num, rfl, by omega, fun j hj hjk q' hq' => by
          by_cases hjk2 : j = k
          · rw [hjk2, unhide HQk] at hq'
            rw [← Option.some.inj hq']; omega
          · exact unhide HK3 j hj (by omega) q' hq', .inl ⟨rfl, by omega⟩⟩
        case measure => simp [intOf]; omega
    · have hml : (l.take m).length = m := by rw [List.length_take, unhide HN]; omega
      have hkinds : ∀ q ∈ l.take m, q.kind ≤ 3 := fun q hq => by
        obtain ⟨j, hj, rfl⟩ := List.mem_iff_getElem.1 hq
        have hjm : j < m := by omega
        refine unhide HK3 j hjm (by omega) _ ?_
        rw [List.getElem_take, List.getElem?_eq_getElem]
      have hls : StLies w2 g o (l.take m) := by
        have h0 := (unhide HL).below (unhide HB2)
        refine ⟨h0.blk, fun j hj => ?_⟩
        have := h0.c j (by rw [List.length_take] at hj; omega)
        rw [List.getElem_take]; exact this
      have HAll := hide (all_some (unhide HK) wr b (pst L) 0 g o c (l.take m) (unhide HP3) (pst_bnd L) (pst_pin (unhide HF).may) (by decide) (by rw [pst_fl]; have := (unhide HF).len; omega) hls (by unfold maxLen; omega) (fun w s n q hq hp hb hi hn hf => act_any (unhide HK).toLineJ w b s n q hp hb hi hn hf (unhide HQ q (List.mem_of_mem_take hq)) (.inl (hkinds q hq))))
      rw [hml] at HAll
      have HEnd := hide (intime_end (unhide HF) (l.take m))
      clear hkinds hls hml HK3
      generalize (((pst L).acts ((l.take m).take 100)).drain 100) = sE at *
      go_wp2_with fail
      refine (unhide HAll).mono ?_
      rintro e w4 ⟨rfl, hp4⟩
      have HB4 := hide (bel_then (unhide HB2) hp4.bel)
      have HDu := hide (due_any w4 b sE hp4 (unhide HEnd).2.2.2.1 (unhide HEnd).2.2.1 (unhide HEnd).2.2.2.2)
      rw [(unhide HEnd).2.1] at HDu
      clear hp4 HAll
      go_wp2_with fail
      refine (unhide HDu).mono ?_
      rintro e w5 ⟨rfl, hb5⟩
      have HB5 := hide (bel_then (unhide HB4) hb5)
      clear hb5
      go_wp2_with fail
      go_ret
      exact ⟨rfl, unhide HB5⟩

set_option maxRecDepth 100000 in
set_option maxHeartbeats 2000000 in
theorem intime_nil (W : World) (KK : ∀ W', Below W.heap.size W W' → ∃ R, LineK W' R) (a0 a1 : Addr) (hg : Gl W a0 a1) (vr : Value) (lr : List Fl) (hr : Fls W vr lr) (hraw : ∀ f ∈ lr, Raw f) (hrl : lr.length ≤ maxLen) (a : Option Addr) (c : Nat) :
    Calls Tryz.prog 5 #[vr, .slice a 0 c] W fun e w' => e = .returned (.bool true) ∧ Below W.heap.size W w' := by
  have HKn := hide (known_any W fun W' h => let ⟨R, k⟩ := KK W' h; ⟨R, k.toLineJ⟩)
  have HKK := hide KK
  have HSt := hide (fun (w : World) (hb : Below W.heap.size W w) => set_F vr lr a0 a1 w (hg.below hb) (hr.below hb) hraw hrl)
  clear KK hg hr hraw hrl
  go_enter Tryz.func5, Tryz.ntmps5
  go_wp2_with fail
  refine (unhide HKn).mono ?_
  rintro e w1 ⟨rfl, hb1⟩
  have HB1 := hide hb1
  clear hb1
  go_wp2_with fail
  refine (unhide HSt w1 (unhide HB1)).mono ?_
  rintro e w2 ⟨v, L, rfl, hown, hfit, hb2⟩
  have HB2 := hide (bel_then (unhide HB1) hb2)
  have HF := hide hfit
  obtain ⟨R, K⟩ := unhide HKK w2 (unhide HB2)
  have HK := hide K
  have HPl := hide (play_F w2 K.toLineJ v L hown.fls hfit.may hfit.len)
  clear hown hfit hb2 K
  go_wp2_with fail
  refine (unhide HPl).mono ?_
  rintro e w3 ⟨b, rfl, hp3⟩
  have HAll := hide (all_nil (unhide HK) w3 b (pst L) 0 a c hp3 (pst_bnd L) (by decide))
  have HEnd := hide (intime_end (unhide HF) [])
  rw [show (pst L).acts (([] : List Stp).take 100) = pst L from rfl] at HEnd
  clear hp3 HPl
  generalize ((pst L).drain 100) = sE at *
  go_wp2_with fail
  refine wp_loop_rounds 1 ?_
  rw [rounds_succ]
  go_wp2_with fail
  refine (unhide HAll).mono ?_
  rintro e w4 ⟨rfl, hp4⟩
  have HB4 := hide (bel_then (unhide HB2) hp4.bel)
  have HDu := hide (due_any w4 b sE hp4 (unhide HEnd).2.2.2.1 (unhide HEnd).2.2.1 (unhide HEnd).2.2.2.2)
  rw [(unhide HEnd).2.1] at HDu
  clear hp4 HAll
  go_wp2_with fail
  refine (unhide HDu).mono ?_
  rintro e w5 ⟨rfl, hb5⟩
  have HB5 := hide (bel_then (unhide HB4) hb5)
  clear hb5
  go_wp2_with fail
  go_ret
  exact ⟨rfl, unhide HB5⟩
end Go.Proofs.YtcnmajndackohaaGreatDoor
/-
  Plain: packets of size 1 that are brought all at once become ready as fast as may be.
-/
namespace Go.Proofs.YtcnmajndackohaaGreatDoor

theorem am_pos {f : Fl} {t : Int} (h : 0 ≤ t) : f.am t = min (f.s + f.p * t / 12) (f.b + f.r * t / 12) := allow_pos _ _ _ _ _ h
/-- The j-th unit, ready at r: just when so much may come. -/
structure Un (f : Fl) (j r : Int) : Prop where
  lo : 1 ≤ r
  hi : j ≤ f.am (r - 1)
  least : r = 1 ∨ f.am (r - 2) < j
theorem am_lt {f : Fl} (hf : f.may) {t u k : Int} (h1 : f.am t < k) (h2 : k ≤ f.am u) : t < u := by
  by_cases g : t < u
  · exact g
  · have := am_mono hf (show u ≤ t by omega); omega
/-- From the j-th on as much may come as from the first on. -/
theorem am_rest {f : Fl} (hf : f.may) {j k x y : Int} (hj : 1 ≤ j) (hx : Un f j x) (hxy : x ≤ y) (hk : k ≤ f.am (y - 1)) : k - j + 1 ≤ f.am (y - x) := by
  have lo := hx.lo
  rcases hx.least with e | hl
  · rw [e]; omega
  · obtain ⟨s0, s1, b0, b1, r0, p0, p1, d0, d1⟩ := hf
    by_cases e1 : x = 1
    · rw [e1]; omega
    rw [am_pos (by omega)] at hk hl ⊢
    have m1 : f.p * (y - 1) = f.p * (y - x) + f.p * (x - 2) + f.p := by
      rw [show y - 1 = (y - x) + (x - 2) + 1 by omega, Int.mul_add, Int.mul_add, Int.mul_one]
    have m2 : f.r * (y - 1) = f.r * (y - x) + f.r * (x - 2) + f.r := by
      rw [show y - 1 = (y - x) + (x - 2) + 1 by omega, Int.mul_add, Int.mul_add, Int.mul_one]
    have m3 := mul_le p0 (show 0 ≤ x - 2 by omega)
    have m4 := mul_le p0 (show 0 ≤ y - x by omega)
    rw [m1, m2] at hk
    generalize f.p * (y - x) = A at *
    generalize f.p * (x - 2) = B at *
    generalize f.r * (y - x) = C at *
    generalize f.r * (x - 2) = D at *
    omega
/-- The next unit is ready at most twelve ticks later. -/
theorem un_gap {f : Fl} (hf : f.may) {j x y T : Int} (hx : Un f j x) (hy : Un f (j + 1) y) (hT : j + 1 ≤ f.am T) : y ≤ x + 12 := by
  rcases hy.least with e | hl
  · have := hx.lo; omega
  · have lo := hx.lo
    have ly := hy.lo
    by_cases g : y ≤ x + 12
    · exact g
    · exfalso
      have h1 := hx.hi
      have h2 := am_mono hf (show x + 11 ≤ y - 2 by omega)
      have hT0 : 0 ≤ T := by
        by_cases k : 0 ≤ T
        · exact k
        · have e0 : f.am T = 0 := allow_neg _ _ _ _ _ (by omega)
          have := am_nonneg hf (y - 2); omega
      obtain ⟨s0, s1, b0, b1, r0, p0, p1, d0, d1⟩ := hf
      rw [am_pos (by omega)] at h1
      rw [am_pos (show (0 : Int) ≤ x + 11 by omega)] at h2
      rw [am_pos hT0] at hT
      have e1 : f.p * (x + 11) = f.p * (x - 1) + f.p * 12 := by rw [← Int.mul_add, show x - 1 + 12 = x + 11 by omega]
      have e2 : f.r * (x + 11) = f.r * (x - 1) + f.r * 12 := by rw [← Int.mul_add, show x - 1 + 12 = x + 11 by omega]
      rw [e1, e2] at h2
      have m1 : 0 ≤ f.p * (x - 1) := Int.mul_nonneg (by omega) (by omega)
      have m2 : 0 ≤ f.r * (x - 1) := Int.mul_nonneg (by omega) (by omega)
      by_cases hr : f.r = 0
      · rw [hr] at h1 h2 hT
        simp only [Int.zero_mul] at h1 h2 hT
        by_cases hp : f.p = 0
        · rw [hp] at h1 h2 hT
          simp only [Int.zero_mul] at h1 h2 hT
          omega
        · omega
      · omega
/-- The least tick for the j-th unit. -/
theorem un_some {f : Fl} (hf : f.may) {j : Int} : ∀ (n : Nat), j ≤ f.am n → ∃ r, Un f j r ∧ r ≤ n + 1
  | 0, h => ⟨1, ⟨Int.le_refl _, h, .inl rfl⟩, by omega⟩
  | n + 1, h => by
    by_cases g : j ≤ f.am n
    · obtain ⟨r, hr, hle⟩ := un_some hf n g
      exact ⟨r, hr, by omega⟩
    · refine ⟨n + 2, ⟨by omega, ?_, .inr ?_⟩, by omega⟩
      · rw [show ((n : Int) + 2 - 1) = ((n + 1 : Nat) : Int) by omega]; exact h
      · rw [show ((n : Int) + 2 - 2) = (n : Int) by omega]; omega
theorem un_uniq {f : Fl} (hf : f.may) {j x y : Int} (hx : Un f j x) (hy : Un f j y) : x = y := by
  have := hx.lo; have := hy.lo
  have a : x ≤ y := by
    rcases hx.least with e | e
    · omega
    · have := am_lt hf e hy.hi; omega
  have b : y ≤ x := by
    rcases hy.least with e | e
    · omega
    · have := am_lt hf e hx.hi; omega
  omega

/-- The packets of flow k are m units (the newest first). -/
def Uns (f : Fl) (k : Int) : List Sk → Nat → Prop
  | [], m => m = 0
  | q :: l, m => if q.flow = k then (∃ m', m = m' + 1 ∧ q.size = 1 ∧ Un f m q.ready ∧ Uns f k l m') else Uns f k l m
theorem uns_none {f : Fl} {k : Int} : ∀ {l : List Sk}, (∀ x ∈ l, x.flow ≠ k) → Uns f k l 0
  | [], _ => rfl
  | q :: _, h => by
    unfold Uns
    rw [if_neg (h q (List.mem_cons_self ..))]
    exact uns_none fun x hx => h x (List.mem_cons_of_mem _ hx)
theorem uns_conf {f : Fl} (hf : f.may) {k r M : Int} (hM : M ≤ f.am (r - 1)) : ∀ {l : List Sk} {m : Nat} {sum : Int}, Uns f k l m → sum + m = M → (m : Int) ≤ M → confL f k r l sum = true
  | [], _, _, _, _, _ => rfl
  | q :: l, m, sum, h, hs, hm => by
    unfold Uns at h
    unfold confL
    by_cases g : q.flow = k
    · rw [if_pos g] at h ⊢
      obtain ⟨m', rfl, e1, hu, h'⟩ := h
      have hle : q.ready ≤ r := by
        rcases hu.least with e | e
        · have : 1 ≤ r := by
            by_cases c : 1 ≤ r
            · exact c
            · have e0 : f.am (r - 1) = 0 := allow_neg _ _ _ _ _ (by omega)
              omega
          omega
        · have := am_lt hf e (show ((m' + 1 : Nat) : Int) ≤ f.am (r - 1) by omega); omega
      have hr := am_rest hf (by omega) hu hle hM
      have lo := hu.lo
      have ih := uns_conf hf hM h' (show sum + q.size + m' = M by omega) (by omega)
      simp only [ih, Bool.and_true, Bool.and_eq_true, decide_eq_true_eq]
      omega
    · rw [if_neg g] at h ⊢
      exact uns_conf hf hM h hs hm
theorem uns_back {f : Fl} (hf : f.may) {k r : Int} : ∀ {l : List Sk} {m : Nat} {sum : Int}, Uns f k l m → 1 ≤ m → confL f k r l sum = true → sum + m ≤ f.am (r - 1)
  | [], m, _, h, hm, _ => by have : m = 0 := h; omega
  | q :: l, m, sum, h, hm, hc => by
    unfold Uns at h
    unfold confL at hc
    by_cases g : q.flow = k
    · rw [if_pos g] at h hc
      obtain ⟨m', rfl, e1, hu, h'⟩ := h
      simp only [Bool.and_eq_true, decide_eq_true_eq] at hc
      by_cases z : m' = 0
      · subst z
        have e : q.ready = 1 := by
          rcases hu.least with e | e
          · exact e
          · have h0 := am_zero hf
            have := hf.s0
            have := am_lt hf e (show ((0 + 1 : Nat) : Int) ≤ f.am 0 by omega)
            have := hu.lo; omega
        have := hc.1.2
        rw [e, e1] at this
        omega
      · have ih := uns_back hf h' (by omega) hc.2
        omega
    · rw [if_neg g] at h hc
      exact uns_back hf h hm hc
theorem uns_ready {f : Fl} {k : Int} : ∀ {l : List Sk} {m : Nat}, Uns f k l m → ∀ x ∈ l, x.flow = k → ∃ j : Nat, 1 ≤ j ∧ j ≤ m ∧ Un f j x.ready
  | [], _, _, x, hx, _ => by cases hx
  | q :: l, m, h, x, hx, hk => by
    unfold Uns at h
    by_cases g : q.flow = k
    · rw [if_pos g] at h
      obtain ⟨m', rfl, _, hu, h'⟩ := h
      rcases List.mem_cons.1 hx with rfl | hx
      · exact ⟨m' + 1, by omega, Nat.le_refl _, hu⟩
      · obtain ⟨j, a, b, c⟩ := uns_ready h' x hx hk
        exact ⟨j, a, by omega, c⟩
    · rw [if_neg g] at h
      rcases List.mem_cons.1 hx with rfl | hx
      · exact absurd hk g
      · exact uns_ready h x hx hk
theorem uns_last {f : Fl} {k : Int} : ∀ {l : List Sk} {m : Nat}, Uns f k l m → 1 ≤ m → ∃ x ∈ l, x.flow = k ∧ Un f m x.ready
  | [], m, h, hm => by have : m = 0 := h; omega
  | q :: l, m, h, hm => by
    unfold Uns at h
    by_cases g : q.flow = k
    · rw [if_pos g] at h
      obtain ⟨m', rfl, _, hu, _⟩ := h
      exact ⟨q, List.mem_cons_self .., g, hu⟩
    · rw [if_neg g] at h
      obtain ⟨x, hx, a⟩ := uns_last h hm
      exact ⟨x, List.mem_cons_of_mem _ hx, a⟩
theorem latest_le {k R : Int} : ∀ {pk : List Pk} {now : Int}, now ≤ R → (∀ p ∈ pk, p.flow = k → p.ready ≤ R) → latest k now pk ≤ R
  | [], _, h, _ => h
  | p :: l, now, h, hp => by
    have e : latest k now (p :: l) = latest k (if p.flow = k ∧ now < p.ready then p.ready else now) l := rfl
    rw [e]
    refine latest_le ?_ fun q hq => hp q (List.mem_cons_of_mem _ hq)
    split
    · rename_i g; exact hp p (List.mem_cons_self ..) g.1
    · exact h
theorem latest_mem {k : Int} : ∀ {pk : List Pk} {now : Int}, ∀ p ∈ pk, p.flow = k → p.ready ≤ latest k now pk
  | [], _, p, hp, _ => by cases hp
  | q :: l, now, p, hp, hk => by
    have e : latest k now (q :: l) = latest k (if q.flow = k ∧ now < q.ready then q.ready else now) l := rfl
    rw [e]
    rcases List.mem_cons.1 hp with rfl | hp
    · refine Int.le_trans ?_ (latest_ge k l _)
      split <;> omega
    · exact latest_mem p hp hk
theorem seekR_least (c : Int → Bool) : ∀ (n : Nat) (r0 r : Int), r0 ≤ r → r < r0 + n → c r = true → r0 ≤ seekR c n r0 ∧ seekR c n r0 ≤ r ∧ c (seekR c n r0) = true
  | 0, r0, r, h1, h2, _ => by omega
  | n + 1, r0, r, h1, h2, hc => by
    unfold seekR
    split
    · rename_i g; exact ⟨Int.le_refl _, h1, g⟩
    · rename_i g
      have : r ≠ r0 := by rintro rfl; exact g hc
      have ih := seekR_least c n (r0 + 1) r (by omega) (by omega) hc
      exact ⟨by omega, ih.2.1, ih.2.2⟩
/-- The next unit of a flow. -/
theorem unit_ready {x : Ln} {f : Fl} (hf : f.may) {k T : Int} {m : Nat} (hn : x.now = 1) (hu : Uns f k (x.pk.map Pk.sk).reverse m) (hT : (m : Int) + 1 ≤ f.am T) : Un f ((m + 1 : Nat) : Int) (x.readyAt f k 1) := by
  have hs0 := hf.s0
  have hz := am_zero hf
  have hT0 : 0 ≤ T := by
    by_cases g : 0 ≤ T
    · exact g
    · have e0 : f.am T = 0 := allow_neg _ _ _ _ _ (by omega)
      omega
  obtain ⟨R, hR, _⟩ := un_some hf (j := ((m + 1 : Nat) : Int)) T.toNat (by rw [Int.toNat_of_nonneg hT0]; omega)
  have mem : ∀ p ∈ x.pk, p.sk ∈ (x.pk.map Pk.sk).reverse := fun p hp => List.mem_reverse.2 (List.mem_map_of_mem hp)
  have lR : latest k x.now x.pk ≤ R := by
    refine latest_le (by rw [hn]; exact hR.lo) fun p hp hk => ?_
    obtain ⟨j, j1, jm, ju⟩ := uns_ready hu p.sk (mem p hp) hk
    have hp' : Un f j p.ready := ju
    rcases hp'.least with e | e
    · have := hR.lo; omega
    · have := am_lt hf e (show (j : Int) ≤ f.am (R - 1) by have := hR.hi; omega); omega
  have hgap : R ≤ latest k x.now x.pk + 12 := by
    by_cases m0 : m = 0
    · have : R ≤ 1 := by
        rcases hR.least with e | e
        · omega
        · have := am_lt hf e (show ((m + 1 : Nat) : Int) ≤ f.am 0 by omega); omega
      have := latest_ge k x.pk x.now
      omega
    · obtain ⟨y, hy, hyk, hyu⟩ := uns_last hu (by omega)
      rw [List.mem_reverse, List.mem_map] at hy
      obtain ⟨p, hp, rfl⟩ := hy
      have a := latest_mem (now := x.now) p hp hyk
      have b := un_gap hf hyu (show Un f ((m : Int) + 1) R from by simpa using hR) hT
      have c : p.sk.ready = p.ready := rfl
      omega
  have hc : conf f k 1 (x.pk.map Pk.sk).reverse R = true := by
    unfold conf
    have := uns_conf hf hR.hi hu (show (1 : Int) + m = ((m + 1 : Nat) : Int) by omega) (by omega)
    simp only [this, Bool.and_true, decide_eq_true_eq]
    omega
  obtain ⟨g1, g2, g3⟩ := seekR_least (conf f k 1 (x.pk.map Pk.sk).reverse) 401 (latest k x.now x.pk) R lR (by omega) hc
  have e : ∀ Z, latest k x.now x.pk ≤ Z → Z ≤ R → conf f k 1 (x.pk.map Pk.sk).reverse Z = true → Z = R := by
    intro Z z1 z2 z3
    have hge : R ≤ Z := by
      by_cases m0 : m = 0
      · have : R ≤ 1 := by
          rcases hR.least with e | e
          · omega
          · have := am_lt hf e (show ((m + 1 : Nat) : Int) ≤ f.am 0 by omega); omega
        have := latest_ge k x.pk x.now
        omega
      · unfold conf at z3
        simp only [Bool.and_eq_true] at z3
        have b := uns_back hf hu (by omega) z3.2
        rcases hR.least with e | e
        · have := latest_ge k x.pk x.now; omega
        · have := am_lt hf e (show ((m + 1 : Nat) : Int) ≤ f.am (Z - 1) by omega)
          omega
    omega
  have e2 : x.readyAt f k 1 = R := e _ g1 g2 g3
  rw [e2]; exact hR
end Go.Proofs.YtcnmajndackohaaGreatDoor
