import Derived.Test.YtcnmajndackohaaGreatDoorMg39
import Derived.Test.YtcnmajndackohaaGreatDoorMg16
/-
  What sum tells of a play.
-/
namespace Go.Proofs.YtcnmajndackohaaGreatDoor
open Go.RowKit
attribute [local go_sem ↓] Go.wp_at_zero Go.wp_at_succ

/-- Those from one up to another one. -/
def seg (G : List Pk) (j m : Nat) : List Pk := (G.take m).drop j
theorem seg_self (G : List Pk) (j : Nat) : seg G j j = [] := by unfold seg; rw [List.drop_eq_nil_iff]; rw [List.length_take]; omega
theorem seg_succ {G : List Pk} {j m : Nat} (hj : j ≤ m) (hm : m < G.length) : seg G j (m + 1) = seg G j m ++ [G[m]] := by
  unfold seg
  rw [List.take_succ_eq_append_getElem hm, List.drop_append_of_le_length (by rw [List.length_take]; omega)]
theorem sum_seg {G : List Pk} {j m : Nat} (k : Int) (hj : j ≤ m) (hm : m < G.length) : sumOf (szk k) (seg G j (m + 1)) = sumOf (szk k) (seg G j m) + if G[m].flow = k then G[m].size else 0 := by
  rw [seg_succ hj hm, sumOf_append]
  show _ + ((if G[m].flow = k then G[m].size else 0) + 0) = _
  omega
theorem sum_bd {k : Int} : ∀ {l : List Pk}, (∀ p ∈ l, 1 ≤ p.size ∧ p.size ≤ 8) → 0 ≤ sumOf (szk k) l ∧ sumOf (szk k) l ≤ 8 * l.length
  | [], _ => ⟨Int.le_refl _, by simp [sumOf]⟩
  | p :: l, h => by
    have h1 := h p (List.mem_cons_self ..)
    have h2 := sum_bd (k := k) (l := l) fun q hq => h q (List.mem_cons_of_mem _ hq)
    show 0 ≤ szk k p + sumOf (szk k) l ∧ szk k p + sumOf (szk k) l ≤ 8 * ((l.length + 1 : Nat) : Int)
    have h3 : szk k p = p.size ∨ szk k p = 0 := by
      unfold szk
      split
      · exact .inl rfl
      · exact .inr rfl
    omega
theorem seg_len (G : List Pk) (j m : Nat) : (seg G j m).length ≤ G.length := by unfold seg; rw [List.length_drop, List.length_take]; omega
theorem seg_mem {G : List Pk} {j m : Nat} {p : Pk} (h : p ∈ seg G j m) : p ∈ G := List.mem_of_mem_take (List.mem_of_mem_drop h)
set_option maxRecDepth 100000 in
set_option maxHeartbeats 4000000 in
theorem sum_any {W : World} {R : World → Nat → Ln → (Nat → Prop) → Prop} (w : World) (b : Nat) (s : Pst) (h : PlayAt W R w b s) (hz : ∀ p ∈ s.gone, (1 ≤ p.size ∧ p.size ≤ 8)) (hl : s.gone.length ≤ 1000000000) (j i : Nat) (hji : j ≤ i) (hi : i < s.gone.length) :
    Calls Tryz.prog 25 #[.pointer (some ⟨b, 0, none⟩), .int .i64 (j : Int), .int .i64 (i : Int)] w fun e w' => e = .returned (.int .i64 (sumOf (szk s.gone[i].flow) (seg s.gone j (i + 1)))) ∧ Below w.heap.size w w' := by
  obtain ⟨o, P, F, vf, vs, vo, vg, inn, hp⟩ := h
  obtain ⟨gg, cg, hgv, hgc⟩ := row_cell hp.go.1 (by omega)
  subst hgv
  obtain ⟨n, hn⟩ : ∃ n, s.gone.length = n := ⟨_, rfl⟩
  have c4 : w.cell? ⟨b, 4, none⟩ = some (.slice (some ⟨gg, 0, none⟩) n cg) := by rw [← hn]; exact hp.blk.cell (j := 4) rfl
  have qi := (gcells_at s.gone i hi).1
  have ei := hgc _ _ qi
  have hgl : gg < w.heap.size := (ownsRow_lt hp.go.1 gg rfl).2
  have hbl := hp.blk.lt
  have HGc := hide (fun (m : Nat) (hm : m < s.gone.length) => (⟨hgc _ _ (gcells_at s.gone m hm).1, hgc _ _ (gcells_at s.gone m hm).2.2.1⟩ : w.cell? ⟨gg, m * 6, none⟩ = some (.int .i64 s.gone[m].flow) ∧ w.cell? ⟨gg, m * 6 + 2, none⟩ = some (.int .i64 s.gone[m].size)))
  have HZ := hide hz
  have HSum := hide (fun (m : Nat) (hjm : j ≤ m) (hm : m < s.gone.length) => sum_seg s.gone[i].flow hjm hm)
  have HBd := hide (fun (m : Nat) => (⟨(sum_bd (k := s.gone[i].flow) (l := seg s.gone j m) fun p hp => hz p (seg_mem hp)), seg_len s.gone j m⟩ : (0 ≤ sumOf (szk s.gone[i].flow) (seg s.gone j m) ∧ sumOf (szk s.gone[i].flow) (seg s.gone j m) ≤ 8 * (seg s.gone j m).length) ∧ (seg s.gone j m).length ≤ s.gone.length))
  have HS0 := hide (show sumOf (szk s.gone[i].flow) (seg s.gone j j) = 0 from by rw [seg_self]; rfl)
  generalize s.gone[i].flow = kf at *
  have HN := hide hn
  have hn1 : (n : Int) ≤ 1000000000 := by omega
  have hin : (i : Int) < (n : Int) := by omega
  clear hp hz hgc hn qi hi hl
  go_enter Tryz.func25, Tryz.ntmps25
  go_wp2_with fail
  go_loopw [7, 8] (fun a c wr => ∃ m : Nat, j ≤ m ∧ m ≤ i + 1 ∧ c = .int .i64 (m : Int) ∧ a = .int .i64 (sumOf (szk kf) (seg s.gone j m)) ∧ Below w.heap.size w wr) (fun _ c _ => i + 1 - (intOf c).toNat)
  case atStart => exact ⟨j, Nat.le_refl _, by omega, rfl, by rw [unhide HS0], Below.refl _ _⟩
  case round =>
    obtain ⟨m, hjm, hmi, rfl, rfl, hbel⟩ := hrel
    have d4 := (hbel.cell hbl).trans c4
    have di := (hbel.cell (p := ⟨gg, i * 6, none⟩) hgl).trans ei
    have HB := hide hbel
    by_cases hx : m ≤ i
    · have hml : m < s.gone.length := by rw [unhide HN]; omega
      have hmn : (m : Int) < (n : Int) := by omega
      have hmle : (m : Int) ≤ (i : Int) := by omega
      obtain ⟨g0, g2⟩ := unhide HGc m hml
      have d0 := (hbel.cell (p := ⟨gg, m * 6, none⟩) hgl).trans g0
      have d2 := (hbel.cell (p := ⟨gg, m * 6 + 2, none⟩) hgl).trans g2
      have hsz := unhide HZ s.gone[m] (List.getElem_mem hml)
      have hS := unhide HSum m hjm hml
      have hBd := unhide HBd m
      rw [unhide HN] at hBd
      have HS1 := hide hS
      generalize s.gone[m].flow = fm at *
      generalize s.gone[m].size = zm at *
      have hs0 := hBd.1.1
      have hs1 : sumOf (szk kf) (seg s.gone j m) ≤ 8000000000 := by have := hBd.1.2; omega
      clear hS hBd hbel g0 g2
      generalize sumOf (szk kf) (seg s.gone j m) = sm at *
      by_cases hf : fm = kf
      · have hd : (fm == kf) = true := by simpa using hf
        have HF := hide hf
        clear hf
        go_wp2_with fail
        go_quiet (fail)
        go_wp2_with fail
        go_roundw
        case rel => exact ⟨m + 1, by omega, by omega, by go_num, by rw [unhide HS1, if_pos (unhide HF)], bel_drewN (unhide HB) _⟩
        case measure => simp [intOf]; omega
      · have hd : (fm == kf) = false := by simpa using hf
        have HF := hide hf
        clear hf
        go_wp2_with fail
        go_quiet (fail)
        go_wp2_with fail
        go_roundw
        case rel => exact ⟨m + 1, by omega, by omega, by go_num, by rw [unhide HS1, if_neg (unhide HF), Int.add_zero], bel_drewN (unhide HB) _⟩
        case measure => simp [intOf]; omega
    · have hme : m = i + 1 := by omega
      have hd : decide ((m : Int) ≤ (i : Int)) = false := by simp; omega
      have HE := hide hme
      clear hbel hme
      go_wp2_with fail
      go_ret
      exact ⟨by rw [← unhide HE]; rfl, unhide HB⟩
end Go.Proofs.YtcnmajndackohaaGreatDoor
/-
  Plain: what Orderly asks, by places.
-/
namespace Go.Proofs.YtcnmajndackohaaGreatDoor
open Go.RowKit

theorem at_split {G : List Pk} {i : Nat} (h : i < G.length) : G = G.take i ++ G[i] :: G.drop (i + 1) := by
  conv => lhs; rw [← List.take_append_drop i G, List.drop_eq_getElem_cons h]
theorem seg_cons {G : List Pk} {j m : Nat} (hj : j < m) (hm : m ≤ G.length) : seg G j m = G[j]'(by omega) :: seg G (j + 1) m := by
  unfold seg
  rw [List.drop_eq_getElem_cons (by rw [List.length_take]; omega), List.getElem_take]
theorem two_split {G : List Pk} {j i : Nat} (hj : j < i) (hi : i < G.length) : G = G.take j ++ G[j] :: (seg G (j + 1) i ++ G[i] :: G.drop (i + 1)) := by
  conv => lhs; rw [at_split hi]
  have h1 : G.take i = G.take j ++ seg G j i := by
    unfold seg
    have h2 : (G.take i).take j = G.take j := by rw [List.take_take, Nat.min_eq_left (by omega)]
    conv => lhs; rw [← List.take_append_drop j (G.take i), h2]
  conv => lhs; rw [h1, seg_cons hj (by omega)]
  simp
theorem orderly_len {L : List Fl} (h6 : L.length ≤ 6) (l : List Stp) : (((pst L).acts (l.take 100)).drain 100).fl.length ≤ 106 := by
  have h1 := acts_len (pst L) (l.take 100)
  rw [pst_fl, List.length_take] at h1
  rw [drain_fl]
  omega
section
variable {s : Pst}
/-- One of those that were told. -/
theorem Ordy.one (h : Ordy s) {i : Nat} (hi : i < s.gone.length) : 0 ≤ s.gone[i].ready ∧ s.gone[i].ready ≤ s.gone[i].start ∧ s.gone[i].start < s.x.now ∧ 1 ≤ s.gone[i].size ∧ s.gone[i].size ≤ 8 ∧ -1 ≤ s.gone[i].flow ∧ s.gone[i].flow < (s.fl.length : Int) ∧ s.gone[i].seq = (((s.gone.take i).countP (ofk s.gone[i].flow) : Nat) : Int) :=
  h.nx _ _ _ (at_split hi)
theorem Ordy.prev (h : Ordy s) {i : Nat} (hi : i + 1 < s.gone.length) : s.gone[i].start + s.gone[i].size ≤ s.gone[i + 1].start := by
  refine h.pr (s.gone.take i) s.gone[i] s.gone[i + 1] (s.gone.drop (i + 1 + 1)) ?_
  have h1 := two_split (G := s.gone) (j := i) (i := i + 1) (by omega) hi
  rwa [seg_self, List.nil_append] at h1
theorem Ordy.con (h : Ordy s) {j i : Nat} (hj : j ≤ i) (hi : i < s.gone.length) (hf : (s.gone[j]'(by omega)).flow = s.gone[i].flow) (h0 : 0 ≤ s.gone[i].flow) :
    ∃ f, s.fl[s.gone[i].flow.toNat]? = some f ∧ (s.gone[j]'(by omega)).ready ≤ s.gone[i].ready ∧ sumOf (szk s.gone[i].flow) (seg s.gone j (i + 1)) ≤ f.am (s.gone[i].ready - (s.gone[j]'(by omega)).ready) := by
  rcases Nat.eq_or_lt_of_le hj with rfl | hlt
  · obtain ⟨f, h1, h2⟩ := h.c1 s.gone[j] (List.getElem_mem hi) h0
    refine ⟨f, h1, Int.le_refl _, ?_⟩
    rw [seg_succ (Nat.le_refl _) hi, seg_self, Int.sub_self]
    show szk _ s.gone[j] + 0 ≤ _
    unfold szk
    rw [if_pos rfl]
    omega
  · obtain ⟨f, h1, h2, h3⟩ := h.cf _ _ _ _ _ (two_split hlt hi) hf h0
    refine ⟨f, h1, h2, ?_⟩
    rw [seg_succ hj hi, seg_cons hlt (by omega), List.cons_append]
    show szk _ s.gone[j] + sumOf _ (seg s.gone (j + 1) i ++ [s.gone[i]]) ≤ _
    rw [sumOf_append]
    show szk _ s.gone[j] + (_ + (szk _ s.gone[i] + 0)) ≤ _
    have e1 : szk s.gone[i].flow s.gone[j] = s.gone[j].size := by unfold szk; rw [if_pos hf]
    have e2 : szk s.gone[i].flow s.gone[i] = s.gone[i].size := by unfold szk; rw [if_pos rfl]
    rw [e1, e2]
    omega
/-- How many of each flow were told. -/
def nxt (s : Pst) (i k : Nat) : Int := (((s.gone.take i).countP (ofk k) : Nat) : Int)
def ncs (s : Pst) (i : Nat) : List Value := (List.range s.fl.length).map fun k => .int .i64 (nxt s i k)
theorem ncs_len (s : Pst) (i : Nat) : (ncs s i).length = s.fl.length := by unfold ncs; rw [List.length_map, List.length_range]
theorem ncs_get (s : Pst) (i : Nat) {k : Nat} (hk : k < s.fl.length) : (ncs s i)[k]? = some (.int .i64 (nxt s i k)) := by
  unfold ncs
  rw [List.getElem?_map, List.getElem?_range hk]; rfl
theorem ncs_zero (s : Pst) : ncs s 0 = List.replicate s.fl.length (.int .i64 0) := by
  unfold ncs
  refine List.ext_getElem? fun k => ?_
  rw [List.getElem?_map, List.getElem?_replicate]
  rcases Nat.lt_or_ge k s.fl.length with g | g
  · rw [List.getElem?_range g, if_pos g]; rfl
  · rw [List.getElem?_eq_none (by rw [List.length_range]; exact g), if_neg (by omega)]; rfl
theorem take_count {i : Nat} (hi : i < s.gone.length) (k : Int) : (s.gone.take (i + 1)).countP (ofk k) = (s.gone.take i).countP (ofk k) + if s.gone[i].flow = k then 1 else 0 := by
  rw [List.take_succ_eq_append_getElem hi, List.countP_append, List.countP_cons]
  by_cases c : s.gone[i].flow = k <;> simp [ofk, c]
theorem ncs_none {i : Nat} (hi : i < s.gone.length) (h : s.gone[i].flow < 0) : ncs s (i + 1) = ncs s i := by
  unfold ncs
  refine List.map_congr_left fun k _ => ?_
  unfold nxt
  rw [take_count hi, if_neg (by omega)]
  rfl
theorem ncs_some (h : Ordy s) {i : Nat} (hi : i < s.gone.length) {k : Nat} (hk : s.gone[i].flow = (k : Int)) : ncs s (i + 1) = (ncs s i).set k (.int .i64 (s.gone[i].seq + 1)) := by
  have hsq := (h.one hi).2.2.2.2.2.2.2
  refine List.ext_getElem? fun j => ?_
  by_cases e : k = j
  · subst e
    rcases Nat.lt_or_ge k s.fl.length with g | g
    · rw [ncs_get s _ g, List.getElem?_set_self (by rw [ncs_len]; exact g)]
      unfold nxt
      rw [take_count hi, if_pos hk, hsq, hk]
      rfl
    · rw [List.getElem?_eq_none (by rw [ncs_len]; exact g), List.getElem?_eq_none (by rw [List.length_set, ncs_len]; exact g)]
  · rw [List.getElem?_set_ne e]
    rcases Nat.lt_or_ge j s.fl.length with g | g
    · rw [ncs_get s _ g, ncs_get s _ g]
      unfold nxt
      rw [take_count hi, if_neg (by omega)]
      rfl
    · rw [List.getElem?_eq_none (by rw [ncs_len]; exact g), List.getElem?_eq_none (by rw [ncs_len]; exact g)]
end
end Go.Proofs.YtcnmajndackohaaGreatDoor
/-
  What Orderly reads of a play in its inner round.
-/
namespace Go.Proofs.YtcnmajndackohaaGreatDoor
open Go.RowKit

theorem flow_in {s : Pst} {f : Fl} {k : Nat} (h : s.fl[k]? = some f) (hk : k < s.fl.length) : f = s.fl[k] := by
  rw [List.getElem?_eq_getElem hk] at h
  exact (Option.some.inj h).symm
theorem inner_facts {w2 : World} {R : World → Nat → Ln → (Nat → Prop) → Prop} {w4 : World} {b gg cg n nf : Nat} {af : Option Addr} {cf : Nat} {s : Pst} {o : Whose} {P : Nat} {F : Nat → Prop} {ve vo : Value} {inn : List Value} (K : LineK w2 R)
    (hv : PlayV w2 R w4 b s o P F (.slice af s.fl.length cf) ve vo (.slice (some ⟨gg, 0, none⟩) s.gone.length cg) inn) (he : Ordy s ∧ Bnd s 200 ∧ Pin s) (hn : s.gone.length = n) (hnf : s.fl.length = nf) (i j k : Nat) (gr : Int) (hil : i < s.gone.length) (hji : j ≤ i) (hk : s.gone[i].flow = (k : Int)) (hgr : s.gone[i].ready = gr) (V : World) (hV : Below w4.heap.size w4 V) :
    ∃ hf y1 y2 hr y4 y5 S : Int, V.cell? ⟨b, 4, none⟩ = some (.slice (some ⟨gg, 0, none⟩) n cg) ∧ V.cell? ⟨b, 1, none⟩ = some (.slice af nf cf) ∧ V.cell? ⟨gg, j * 6, none⟩ = some (.int .i64 hf) ∧ V.cell? ⟨gg, j * 6 + 1, none⟩ = some (.int .i64 y1) ∧ V.cell? ⟨gg, j * 6 + 2, none⟩ = some (.int .i64 y2) ∧ V.cell? ⟨gg, j * 6 + 3, none⟩ = some (.int .i64 hr) ∧ V.cell? ⟨gg, j * 6 + 4, none⟩ = some (.int .i64 y4) ∧ V.cell? ⟨gg, j * 6 + 5, none⟩ = some (.int .i64 y5) ∧
      (∀ U, Below w4.heap.size w4 U → Calls Tryz.prog 25 #[.pointer (some ⟨b, 0, none⟩), .int .i64 (j : Int), .int .i64 (i : Int)] U fun e w' => e = .returned (.int .i64 S) ∧ Below U.heap.size U w') ∧ 0 ≤ hr ∧
      (hf = (k : Int) → ∃ g0 g1 g2 g3 g4 : Int, ∃ gfb, af = some ⟨gfb, 0, none⟩ ∧ gfb < w4.heap.size ∧ (∀ U, Below w4.heap.size w4 U → U.cell? ⟨gfb, k * 5, none⟩ = some (.int .i64 g0) ∧ U.cell? ⟨gfb, k * 5 + 1, none⟩ = some (.int .i64 g1) ∧ U.cell? ⟨gfb, k * 5 + 2, none⟩ = some (.int .i64 g2) ∧ U.cell? ⟨gfb, k * 5 + 3, none⟩ = some (.int .i64 g3) ∧ U.cell? ⟨gfb, k * 5 + 4, none⟩ = some (.int .i64 g4)) ∧ hr ≤ gr ∧ May g0 g1 g2 g3 g4 ∧ S ≤ allow g0 g1 g2 g3 (gr - hr)) := by
  have hjl : j < s.gone.length := by omega
  obtain ⟨gg', cg', hgv, hgc⟩ := row_cell hv.go.1 (by omega)
  simp only [Value.slice.injEq, Option.some.injEq, Addr.mk.injEq] at hgv
  obtain ⟨⟨rfl, _⟩, _, rfl⟩ := hgv
  have hbl := hv.blk.lt
  have hgl : gg < w4.heap.size := (ownsRow_lt hv.go.1 gg rfl).2
  have q := gcells_at s.gone j hjl
  have h1 := he.1.one hjl
  have c4 : V.cell? ⟨b, 4, none⟩ = some (.slice (some ⟨gg, 0, none⟩) n cg) := by rw [← hn]; exact (hV.cell hbl).trans (hv.blk.cell (j := 4) rfl)
  have c1 : V.cell? ⟨b, 1, none⟩ = some (.slice af nf cf) := by rw [← hnf]; exact (hV.cell hbl).trans (hv.blk.cell (j := 1) rfl)
  refine ⟨_, _, _, _, _, _, sumOf (szk s.gone[i].flow) (seg s.gone j (i + 1)), c4, c1, (hV.cell hgl).trans (hgc _ _ q.1), (hV.cell hgl).trans (hgc _ _ q.2.1), (hV.cell hgl).trans (hgc _ _ q.2.2.1), (hV.cell hgl).trans (hgc _ _ q.2.2.2.1), (hV.cell hgl).trans (hgc _ _ q.2.2.2.2.1), (hV.cell hgl).trans (hgc _ _ q.2.2.2.2.2), ?_, h1.1, ?_⟩
  · intro U hU
    exact sum_any U b s (PlayAt.only ⟨_, _, _, _, _, _, _, _, hv⟩ K.toLineJ hU) (fun p hp => by
      obtain ⟨m, hm, rfl⟩ := List.mem_iff_getElem.1 hp
      have := he.1.one hm
      exact ⟨this.2.2.2.1, this.2.2.2.2.1⟩) (by have := he.2.1.go; omega) j i hji hil
  · intro hf
    have hk1 : k < s.fl.length := by have := (he.1.one hil).2.2.2.2.2.2.1; omega
    obtain ⟨f, hfl, hle, hsum⟩ := he.1.con hji hil (hf.trans hk.symm) (by omega)
    rw [hk, Int.toNat_natCast] at hfl
    have ef := flow_in hfl hk1
    subst ef
    obtain ⟨gf, cff, hfv, hfc⟩ := row_cell hv.fl.1 (by omega)
    simp only [Value.slice.injEq] at hfv
    obtain ⟨rfl, _, rfl⟩ := hfv
    have hfl2 : gf < w4.heap.size := (ownsRow_lt hv.fl.1 gf rfl).2
    have qf := fcells_at s.fl k hk1
    rw [hgr] at hle hsum
    exact ⟨_, _, _, _, _, gf, rfl, hfl2, fun U hU => ⟨(hU.cell hfl2).trans (hfc _ _ qf.1), (hU.cell hfl2).trans (hfc _ _ qf.2.1), (hU.cell hfl2).trans (hfc _ _ qf.2.2.1), (hU.cell hfl2).trans (hfc _ _ qf.2.2.2.1), (hU.cell hfl2).trans (hfc _ _ qf.2.2.2.2)⟩, hle, he.2.2.may _ (List.getElem_mem hk1), hsum⟩
end Go.Proofs.YtcnmajndackohaaGreatDoor
