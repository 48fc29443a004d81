import Derived.Test.YtcnmajndackohaaGreatDoorMg26
import Derived.Test.YtcnmajndackohaaGreatDoorMg38
import Derived.Test.YtcnmajndackohaaGreatDoorMg20
/-
  What the document's Gone does.
-/
namespace Go.Proofs.YtcnmajndackohaaGreatDoor
open Go.RowKit
attribute [local go_sem ↓] Go.wp_at_zero Go.wp_at_succ
theorem RefV.bgAt {w : World} {P : Nat} {x : Ln} {o : Whose} {vf vp vb : Value} (h : RefV w P x o vf vp vb) (hn : 0 < x.began.length) : ∃ g c, vb = .slice (some ⟨g, 0, none⟩) x.began.length c ∧ g < w.heap.size ∧ ∀ (k : Nat) (hk : k < x.began.length), w.cell? ⟨g, k, none⟩ = some (.int .i64 (x.began[k] : Int)) := by
  obtain ⟨g, c, rfl, _, hlt⟩ := World.ownsRow.form h.bg.1 hn
  refine ⟨g, c, rfl, hlt, fun k hk => own_cell h.bg.1 ?_⟩
  unfold ncells
  rw [List.getElem?_map, List.getElem?_eq_getElem hk]
  rfl
/-- Gone, so far: the first k that began have been gone through. -/
structure Gnk (w wr : World) (o : Whose) (P : Nat) (x : Ln) (k : Nat) (v : Value) (out : List Pk) (pk : List Pk) (o1 : Whose) (vf vp vb : Value) : Prop where
  V : RefV wr P { x with pk := pk } o1 vf vp vb
  O : Only (fun i => o i ≠ 0) w wr
  old : ∀ i, i < w.heap.size → o1 i = o i
  len : pk.length = x.pk.length
  row : wr.ownsRow w.heap.size 63 6 v out.length (gcells out)
  apart : ∀ g, v.ownBlock = some g → o1 g = 0
  eq : goneL x.now x.began x.pk = (out ++ (goneL x.now (x.began.drop k) pk).1, (goneL x.now (x.began.drop k) pk).2)
  ol : out.length ≤ k
  un : pk.map untold = x.pk.map untold
section
variable {w wr w1 w2 : World} {o o1 : Whose} {P k : Nat} {x : Ln} {v vf vp vb : Value} {out pk : List Pk}
theorem Gnk.skip {i : Nat} {p : Pk} (h : Gnk w wr o P x k v out pk o1 vf vp vb) (hb : Below wr.heap.size wr w1) (hk : x.began[k]? = some i) (hp : pk[i]? = some p) (hf : fresh1 x.now p = false) : ∃ o2, Gnk w w1 o P x (k + 1) v out pk o2 vf vp vb :=
  ⟨_, h.V.below hb, h.O.trans (Only.of_below (S := fun _ => False) hb) (fun _ _ k => k.elim), fun i hi => (give_old (Nat.lt_of_lt_of_le hi h.O.size)).trans (h.old i hi), h.len, ownsRow_only h.row (Only.of_below (S := fun _ => False) hb) (fun _ _ k => k), fun g hg => by rw [give_old (ownsRow_lt h.row g hg).2]; exact h.apart g hg, by rw [h.eq, goneL_skip hk hp hf], by have := h.ol; omega, h.un⟩
theorem mod_set : ∀ (pk : List Pk) (i : Nat) (h : i < pk.length), pk.modify i tell = pk.set i { pk[i] with told := true }
  | [], _, h => absurd h (by simp)
  | _ :: _, 0, _ => rfl
  | p :: l, i + 1, h => by
    have := mod_set l i (by simpa using h)
    rw [List.modify_succ_cons, List.set_cons_succ, this]
    rfl
/-- One more is told: ahead of the append. -/
theorem Gnk.tell {i g c : Nat} (h : Gnk w wr o P x k v out pk o1 vf (.slice (some ⟨g, 0, none⟩) x.pk.length c) vb) (hb : Below wr.heap.size wr w1) (hi : i < pk.length) :
    ∃ o2, RefV (w1.setCell ⟨g, i * 7 + 6, none⟩ (.bool true)) P { x with pk := pk.modify i tell } o2 vf (.slice (some ⟨g, 0, none⟩) x.pk.length c) vb ∧ Only (fun i => o i ≠ 0) w (w1.setCell ⟨g, i * 7 + 6, none⟩ (.bool true)) ∧ (∀ i, i < w.heap.size → o2 i = o i) ∧ (∀ g', v.ownBlock = some g' → o2 g' = 0) ∧ (w1.setCell ⟨g, i * 7 + 6, none⟩ (.bool true)).ownsRow w.heap.size 63 6 v out.length (gcells out) := by
  have hV := h.V.below hb
  have hS := hV.setPk (pk := pk.modify i Go.Proofs.YtcnmajndackohaaGreatDoor.tell) (k := i * 7 + 6) (v := .bool true) (by rw [List.length_modify]) h.len.symm (by rw [mod_set pk i hi]; exact (pcells_field pk i hi 0).2.2)
  have old : ∀ j, j < w.heap.size → o1.give wr.heap.size w1.heap.size 0 j = o j := fun j hj => (give_old (Nat.lt_of_lt_of_le hj h.O.size)).trans (h.old j hj)
  have hap : ∀ g', v.ownBlock = some g' → o1.give wr.heap.size w1.heap.size 0 g' = 0 := fun g' hg' => by rw [give_old (ownsRow_lt h.row g' hg').2]; exact h.apart g' hg'
  refine ⟨_, hS.1, (h.O.trans (Only.of_below (S := fun _ => False) hb) (fun _ _ k => k.elim)).trans hS.2 (fun j hj e => by rwa [old j hj] at e), old, hap, ?_⟩
  exact ownsRow_only (ownsRow_only h.row (Only.of_below (S := fun _ => False) hb) (fun _ _ k => k)) hS.2 (fun g' hg' e => e (hap g' hg'))
/-- And it is in the list. -/
theorem Gnk.more {w3 w4 w5 : World} {o2 : Whose} {i g5 cap : Nat} {p : Pk} (h : Gnk w wr o P x k v out pk o1 vf vp vb) (hV : RefV w3 P { x with pk := pk.modify i Go.Proofs.YtcnmajndackohaaGreatDoor.tell } o2 vf vp vb) (hO : Only (fun i => o i ≠ 0) w w3) (hold : ∀ i, i < w.heap.size → o2 i = o i) (hap : ∀ g', v.ownBlock = some g' → o2 g' = 0) (hrow : w3.ownsRow w.heap.size 63 6 v out.length (gcells out))
    (hb : Below w3.heap.size w3 w4) (h' : w5.ownsRow w.heap.size 63 6 (.slice (some ⟨g5, 0, none⟩) (out.length + 1) cap) (out.length + 1) (gcells out ++ gcs p)) (hgr : w4.grownBy w5 v.ownBlock) (hat : v.ownBlock = some g5 ∨ w3.heap.size ≤ g5) (hk : x.began[k]? = some i) (hp : pk[i]? = some p) (hf : fresh1 x.now p = true) :
    ∃ o3, Gnk w w5 o P x (k + 1) (.slice (some ⟨g5, 0, none⟩) (out.length + 1) cap) (out ++ [p]) (pk.modify i Go.Proofs.YtcnmajndackohaaGreatDoor.tell) o3 vf vp vb := by
  have hS : Only (fun j => v.ownBlock = some j) w3 w5 := (Only.of_below hb).grown hgr (fun j e _ => e)
  have hz := hS.size
  refine ⟨o2.give w3.heap.size w5.heap.size 0, hV.only hS hap, hO.trans hS (fun j hj e => by have := (ownsRow_lt hrow j e).1; omega), fun j hj => (give_old (Nat.lt_of_lt_of_le hj hO.size)).trans (hold j hj), by rw [List.length_modify]; exact h.len, ?_, fun g hg => ?_, ?_, ?_, ?_⟩
  · rw [List.length_append, gcells_append]
    have e : gcells [p] = gcs p := by show gcs p ++ [] = gcs p; rw [List.append_nil]
    rw [e]
    exact h'
  · have e : g5 = g := Option.some.inj hg
    subst e
    rcases Nat.lt_or_ge g5 w3.heap.size with c | c
    · rw [give_old c]
      rcases hat with q | q
      · exact hap g5 q
      · omega
    · exact give_new c (ownsRow_lt h' g5 rfl).2
  · rw [h.eq, goneL_tell hk hp hf, List.append_assoc]
    rfl
  · rw [List.length_append]; have := h.ol; exact Nat.succ_le_succ this
  · rw [untold_modify]; exact h.un
end
set_option maxRecDepth 100000 in
set_option maxHeartbeats 4000000 in
theorem rgone_any (w : World) (P : Nat) (x : Ln) (o : Whose) (vf vp vb : Value) (h : RefV w P x o vf vp vb) (hL : Lbd x) (hbl : x.began.length ≤ 100000000) :
    Calls Tryz.prog 106 #[.pointer (some ⟨P, 0, none⟩)] w fun e w' => ∃ v, e = .returned v ∧ w'.ownsRow w.heap.size 63 6 v x.gone.1.length (gcells x.gone.1) ∧ RefTo w o P x.gone.2 w' := by
  have HV := hide h
  have HL := hide hL
  obtain ⟨i2, hi2, hx0, hx1, hx2⟩ := info_anyR infoGn
  have HI2 := hide hi2
  have HX0 := hide hx0
  have HX1 := hide hx1
  have HX2 := hide hx2
  obtain ⟨nb, hnb⟩ : ∃ nb, x.began.length = nb := ⟨_, rfl⟩
  have HNb := hide hnb
  rw [hnb] at hbl
  have hnb9 : (nb : Int) ≤ 100000000 := by omega
  have HG0 := hide (show Gnk w w o P x 0 (.slice none 0 0) [] x.pk o vf vp vb from ⟨h, Only.refl _ _, fun _ _ => rfl, rfl, World.ownsRow_nil _ _ _ _, (fun g hg => by cases hg), rfl, Nat.le_refl _, rfl⟩)
  clear h hL hi2 hx0 hx1 hx2 hnb
  go_enter Tryz.func106, Tryz.ntmps106
  go_wp2_with fail
  go_loopw [3, 4] (fun v a wr => ∃ (k : Nat) (out pk : List Pk) (o1 : Whose) (vf vp vb : Value), a = .int .i64 (k : Int) ∧ k ≤ nb ∧ Gnk w wr o P x k v out pk o1 vf vp vb) (fun _ a _ => nb - (intOf a).toNat)
  case atStart => exact ⟨0, [], x.pk, o, vf, vp, vb, rfl, Nat.zero_le _, unhide HG0⟩
  case round =>
    obtain ⟨k, out, pk, o1, vf1, vp1, vb1, rfl, hk, hG⟩ := hrel
    have HG := hide hG
    obtain ⟨ab, cb, hvb⟩ := hG.V.bgLen
    have hvb' : vb1 = .slice ab nb cb := by rw [hvb, ← unhide HNb]
    clear hvb
    subst hvb'
    have c3 : wr.cell? ⟨P, 3, none⟩ = some (.slice ab nb cb) := hG.V.blk.cell (j := 3) rfl
    by_cases hlt : k < nb
    · have hki : (k : Int) < (nb : Int) := by omega
      have hkb : k < x.began.length := by rw [unhide HNb]; exact hlt
      obtain ⟨gb, cb', hvb, hgb, hbc⟩ := hG.V.bgAt (by show 0 < x.began.length; omega)
      have hvb2 : (Value.slice ab nb cb) = .slice (some ⟨gb, 0, none⟩) x.began.length cb' := hvb
      simp only [Value.slice.injEq] at hvb2
      obtain ⟨rfl, -, rfl⟩ := hvb2
      have b0 : wr.cell? ⟨gb, k, none⟩ = some (.int .i64 (x.began[k] : Int)) := hbc k hkb
      obtain ⟨pk0, hpk0, hst0⟩ : ∃ q, x.pk[x.began[k]]? = some q ∧ True := by
        have := (unhide HL).bg x.began[k] (List.getElem_mem hkb)
        exact ⟨_, List.getElem?_eq_getElem this, trivial⟩
      have hil : x.began[k] < pk.length := by rw [hG.len]; exact (List.getElem?_eq_some_iff.1 hpk0).1
      have hbk : x.began[k]? = some x.began[k] := List.getElem?_eq_getElem hkb
      have hlen := hG.len
      generalize x.began[k] = i at *
      obtain ⟨gp, cp, hvp, hgp, hpc⟩ := hG.V.pkAt (by show 0 < pk.length; omega)
      have hvp2 : vp1 = .slice (some ⟨gp, 0, none⟩) x.pk.length cp := by rw [← hlen]; exact hvp
      subst hvp2
      obtain ⟨f0, f1, f2, f3, f4, f5, f6⟩ : wr.cell? ⟨gp, i * 7, none⟩ = some (.int .i64 pk[i].flow) ∧ wr.cell? ⟨gp, i * 7 + 1, none⟩ = some (.int .i64 pk[i].seq) ∧ wr.cell? ⟨gp, i * 7 + 2, none⟩ = some (.int .i64 pk[i].size) ∧ wr.cell? ⟨gp, i * 7 + 3, none⟩ = some (.int .i64 pk[i].ready) ∧ wr.cell? ⟨gp, i * 7 + 4, none⟩ = some (.int .i64 pk[i].start) ∧ wr.cell? ⟨gp, i * 7 + 5, none⟩ = some (.bool pk[i].dropped) ∧ wr.cell? ⟨gp, i * 7 + 6, none⟩ = some (.bool pk[i].told) := hpc i hil
      have d0 : wr.cell? ⟨P, 0, none⟩ = some (.int .i64 x.now) := hG.V.blk.cell (j := 0) rfl
      have d2 : wr.cell? ⟨P, 2, none⟩ = some (.slice (some ⟨gp, 0, none⟩) x.pk.length cp) := hG.V.blk.cell (j := 2) rfl
      have hPl := hG.V.blk.lt
      have hpi : pk[i]? = some pk[i] := List.getElem?_eq_getElem hil
      obtain ⟨s0, s1, s2, s3⟩ : -1 ≤ pk[i].start ∧ pk[i].start ≤ 1000000000000 ∧ 0 ≤ pk[i].size ∧ pk[i].size ≤ 1000 := by
        have e := congrArg (fun l : List Pk => l[i]?) hG.un
        simp only [List.getElem?_map, hpi, hpk0, Option.map_some, Option.some.injEq] at e
        have e1 := congrArg Pk.start e
        have e2 := congrArg Pk.size e
        change pk[i].start = pk0.start at e1
        change pk[i].size = pk0.size at e2
        rw [e1, e2]
        exact (unhide HL).sm i (List.mem_of_getElem? hbk) pk0 hpk0
      have hpl : x.pk.length ≤ 100000000 := (unhide HL).pl
      have hpl2 : (x.pk.length : Int) ≤ 100000000 := by omega
      have hix : i < x.pk.length := by omega
      have hii : (i : Int) < (x.pk.length : Int) := by omega
      have HLen := hide hlen
      have HIl := hide hil
      have HBk := hide hbk
      have HPi := hide hpi
      clear hG hpc hbc hpk0 hst0 hkb hvb hvp hlen hbk
      generalize pk[i] = p at *
      clear hil
      have HSB := hide (fun (W : World) (hb : Below wr.heap.size wr W) => show (fun w' : World => w'.cell? ⟨P, 2, none⟩ = some (.slice (some ⟨gp, 0, none⟩) x.pk.length cp) ∧ w'.cell? ⟨P, 3, none⟩ = some (.slice (some ⟨gb, 0, none⟩) nb cb) ∧ w'.cell? ⟨gb, k, none⟩ = some (.int .i64 (i : Int)) ∧ w'.cell? ⟨gp, i * 7, none⟩ = some (.int .i64 p.flow) ∧ w'.cell? ⟨gp, i * 7 + 1, none⟩ = some (.int .i64 p.seq) ∧ w'.cell? ⟨gp, i * 7 + 2, none⟩ = some (.int .i64 p.size) ∧ w'.cell? ⟨gp, i * 7 + 3, none⟩ = some (.int .i64 p.ready) ∧ w'.cell? ⟨gp, i * 7 + 4, none⟩ = some (.int .i64 p.start) ∧ w'.cell? ⟨gp, i * 7 + 5, none⟩ = some (.bool p.dropped) ∧ w'.cell? ⟨gp, i * 7 + 6, none⟩ = some (.bool p.told)) W from ⟨(hb.cell (p := ⟨P, 2, none⟩) hPl).trans d2, (hb.cell (p := ⟨P, 3, none⟩) hPl).trans c3, (hb.cell (p := ⟨gb, k, none⟩) hgb).trans b0, (hb.cell (p := ⟨gp, i * 7, none⟩) hgp).trans f0, (hb.cell (p := ⟨gp, i * 7 + 1, none⟩) hgp).trans f1, (hb.cell (p := ⟨gp, i * 7 + 2, none⟩) hgp).trans f2, (hb.cell (p := ⟨gp, i * 7 + 3, none⟩) hgp).trans f3, (hb.cell (p := ⟨gp, i * 7 + 4, none⟩) hgp).trans f4, (hb.cell (p := ⟨gp, i * 7 + 5, none⟩) hgp).trans f5, (hb.cell (p := ⟨gp, i * 7 + 6, none⟩) hgp).trans f6⟩)
      clear hpi
      go_wp2_with fail
      refine wp_region_held_drew (S := (fun w' : World => w'.cell? ⟨P, 2, none⟩ = some (.slice (some ⟨gp, 0, none⟩) x.pk.length cp) ∧ w'.cell? ⟨P, 3, none⟩ = some (.slice (some ⟨gb, 0, none⟩) nb cb) ∧ w'.cell? ⟨gb, k, none⟩ = some (.int .i64 (i : Int)) ∧ w'.cell? ⟨gp, i * 7, none⟩ = some (.int .i64 p.flow) ∧ w'.cell? ⟨gp, i * 7 + 1, none⟩ = some (.int .i64 p.seq) ∧ w'.cell? ⟨gp, i * 7 + 2, none⟩ = some (.int .i64 p.size) ∧ w'.cell? ⟨gp, i * 7 + 3, none⟩ = some (.int .i64 p.ready) ∧ w'.cell? ⟨gp, i * 7 + 4, none⟩ = some (.int .i64 p.start) ∧ w'.cell? ⟨gp, i * 7 + 5, none⟩ = some (.bool p.dropped) ∧ w'.cell? ⟨gp, i * 7 + 6, none⟩ = some (.bool p.told))) (by kernel_rfl) (unhide HSB _ (Below.refl wr.heap.size wr).drew) (fun hHeld => ?_)
      refine wpAnyH_take (i := 0) (v := ?_) rfl (by kernel_rfl) (by kernel_rfl) (by kernel_rfl) (fun _ _ _ h => h) (Or.inl ⟨by rfl, ?_⟩) (by assumption) ?_
      rotate_left
      · intro w hSw; (try dsimp only at hSw); go_simp; (try rfl)
      (try go_frame)
      refine wpAnyH_take (i := 1) (v := ?_) rfl (by kernel_rfl) (by kernel_rfl) (by kernel_rfl) (fun _ _ _ h => h) (Or.inl ⟨by rfl, ?_⟩) (by assumption) ?_
      rotate_left
      · intro w hSw; (try dsimp only at hSw); go_simp; (try rfl)
      (try go_frame)
      refine wpAnyH_take (i := 2) (v := ?_) rfl (by kernel_rfl) (by kernel_rfl) (by kernel_rfl) (fun _ _ _ h => h) (Or.inl ⟨by rfl, ?_⟩) (by assumption) ?_
      rotate_left
      · intro w hSw; (try dsimp only at hSw); go_simp; (try rfl)
      (try go_frame)
      refine wpAnyH_take (i := 3) (v := ?_) rfl (by kernel_rfl) (by kernel_rfl) (by kernel_rfl) (fun _ _ _ h => h) (Or.inl ⟨by rfl, ?_⟩) (by assumption) ?_
      rotate_left
      · intro w hSw; (try dsimp only at hSw); go_simp; (try rfl)
      (try go_frame)
      refine wpAnyH_take (i := 4) (v := ?_) rfl (by kernel_rfl) (by kernel_rfl) (by kernel_rfl) (fun _ _ _ h => h) (Or.inl ⟨by rfl, ?_⟩) (by assumption) ?_
      rotate_left
      · intro w hSw; (try dsimp only at hSw); go_simp; (try rfl)
      (try go_frame)
      refine wpAnyH_take (i := 5) (v := ?_) rfl (by kernel_rfl) (by kernel_rfl) (by kernel_rfl) (fun _ _ _ h => h) (Or.inl ⟨by rfl, ?_⟩) (by assumption) ?_
      rotate_left
      · intro w hSw; (try dsimp only at hSw); go_simp; (try rfl)
      (try go_frame)
      refine wpAnyH_take (i := 6) (v := ?_) rfl (by kernel_rfl) (by kernel_rfl) (by kernel_rfl) (fun _ _ _ h => h) (Or.inl ⟨by rfl, ?_⟩) (by assumption) ?_
      rotate_left
      · intro w hSw; (try dsimp only at hSw); go_simp; (try rfl)
      (try go_frame)
      refine wpAnyH_take (i := 7) (v := ?_) rfl (by kernel_rfl) (by kernel_rfl) (by kernel_rfl) (fun _ _ _ h => h) (Or.inl ⟨by rfl, ?_⟩) (by assumption) ?_
      rotate_left
      · intro w hSw; (try dsimp only at hSw); go_simp; (try rfl)
      (try go_frame)
      refine wpAnyH_take (i := 8) (v := ?_) rfl (by kernel_rfl) (by kernel_rfl) (by kernel_rfl) (fun _ _ _ h => h) (Or.inl ⟨by rfl, ?_⟩) (by assumption) ?_
      rotate_left
      · intro w hSw; (try dsimp only at hSw); go_simp; (try rfl)
      (try go_frame)
      refine wpAnyH_take (i := 9) (v := ?_) rfl (by kernel_rfl) (by kernel_rfl) (by kernel_rfl) (fun _ _ _ h => h) (Or.inl ⟨by rfl, ?_⟩) (by assumption) ?_
      rotate_left
      · intro w hSw; (try dsimp only at hSw); go_simp; (try rfl)
      (try go_frame)
      refine wpAnyH_take (i := 10) (v := ?_) rfl (by kernel_rfl) (by kernel_rfl) (by kernel_rfl) (fun _ _ _ h => h) (Or.inl ⟨by rfl, ?_⟩) (by assumption) ?_
      rotate_left
      · intro w hSw; (try dsimp only at hSw); go_simp; (try rfl)
      (try go_frame)
      refine wpAnyH_take (i := 11) (v := ?_) rfl (by kernel_rfl) (by kernel_rfl) (by kernel_rfl) (fun _ _ _ h => h) (Or.inl ⟨by rfl, ?_⟩) (by assumption) ?_
      rotate_left
      · intro w hSw; (try dsimp only at hSw); go_simp; (try rfl)
      (try go_frame)
      refine wpAnyH_take (i := 12) (v := ?_) rfl (by kernel_rfl) (by kernel_rfl) (by kernel_rfl) (fun _ _ _ h => h) (Or.inl ⟨by rfl, ?_⟩) (by assumption) ?_
      rotate_left
      · intro w hSw; (try dsimp only at hSw); go_simp; (try rfl)
      (try go_frame)
      refine wpAnyH_ready (rs := [13]) (by kernel_rfl) (by simp) (AllReadyH.cons rfl (fun K hK => ?_) AllReadyH.nil)
      go_simp
      have hbA := (Below.refl wr.heap.size wr).drew.alloc (Nat.le_refl _) (.cells #[.int .i64 0, .int .i64 0, .int .i64 0, .int .i64 0, .int .i64 0, .bool false, .bool false] 184)
      have hSA := unhide HSB _ hbA
      refine hK.out _ _ hSA (fun hHeld => ?_)
      clear hK K hSA
      have HBA := hide hbA
      clear hbA
      (try go_frame)
      refine wpAnyH_ready (rs := [14]) (by kernel_rfl) (by simp) (AllReadyH.cons rfl (fun K hK => ?_) AllReadyH.nil)
      go_simp
      have hbS : Below wr.heap.size wr (wr.alloc (.cells #[.int .i64 p.flow, .int .i64 p.seq, .int .i64 p.size, .int .i64 p.ready, .int .i64 p.start, .bool p.dropped, .bool p.told] 184)).drew := (bel_one _).drew
      have hSS := unhide HSB _ hbS
      refine hK.out _ _ hSS (fun hHeld => ?_)
      clear hK K hHeld HBA
      refine wpAnyH_done (by kernel_rfl) ?_ _
      have hIs : Is (wr.alloc (.cells #[.int .i64 p.flow, .int .i64 p.seq, .int .i64 p.size, .int .i64 p.ready, .int .i64 p.start, .bool p.dropped, .bool p.told] 184)).drew wr.heap.size 184 #[.int .i64 p.flow, .int .i64 p.seq, .int .i64 p.size, .int .i64 p.ready, .int .i64 p.start, .bool p.dropped, .bool p.told] := (Is.new wr _ _).drew
      have e0 : (wr.alloc (.cells #[.int .i64 p.flow, .int .i64 p.seq, .int .i64 p.size, .int .i64 p.ready, .int .i64 p.start, .bool p.dropped, .bool p.told] 184)).drew.cell? ⟨P, 0, none⟩ = some (.int .i64 x.now) := (hbS.cell (p := ⟨P, 0, none⟩) hPl).trans d0
      obtain ⟨e2, e3, eb, -, -, -, -, -, -, e6⟩ := hSS
      clear HSB f0 f1 f2 f3 f4 f5 f6 d0 d2 c3 b0
      have y0 : (wr.alloc (.cells #[.int .i64 p.flow, .int .i64 p.seq, .int .i64 p.size, .int .i64 p.ready, .int .i64 p.start, .bool p.dropped, .bool p.told] 184)).drew.cell? ⟨wr.heap.size, 0, none⟩ = some (.int .i64 p.flow) := hIs.cell (j := 0) rfl
      have y1 : (wr.alloc (.cells #[.int .i64 p.flow, .int .i64 p.seq, .int .i64 p.size, .int .i64 p.ready, .int .i64 p.start, .bool p.dropped, .bool p.told] 184)).drew.cell? ⟨wr.heap.size, 1, none⟩ = some (.int .i64 p.seq) := hIs.cell (j := 1) rfl
      have y2 : (wr.alloc (.cells #[.int .i64 p.flow, .int .i64 p.seq, .int .i64 p.size, .int .i64 p.ready, .int .i64 p.start, .bool p.dropped, .bool p.told] 184)).drew.cell? ⟨wr.heap.size, 2, none⟩ = some (.int .i64 p.size) := hIs.cell (j := 2) rfl
      have y3 : (wr.alloc (.cells #[.int .i64 p.flow, .int .i64 p.seq, .int .i64 p.size, .int .i64 p.ready, .int .i64 p.start, .bool p.dropped, .bool p.told] 184)).drew.cell? ⟨wr.heap.size, 3, none⟩ = some (.int .i64 p.ready) := hIs.cell (j := 3) rfl
      have y4 : (wr.alloc (.cells #[.int .i64 p.flow, .int .i64 p.seq, .int .i64 p.size, .int .i64 p.ready, .int .i64 p.start, .bool p.dropped, .bool p.told] 184)).drew.cell? ⟨wr.heap.size, 4, none⟩ = some (.int .i64 p.start) := hIs.cell (j := 4) rfl
      have y6 : (wr.alloc (.cells #[.int .i64 p.flow, .int .i64 p.seq, .int .i64 p.size, .int .i64 p.ready, .int .i64 p.start, .bool p.dropped, .bool p.told] 184)).drew.cell? ⟨wr.heap.size, 6, none⟩ = some (.bool p.told) := hIs.cell (j := 6) rfl
      have HBS := hide hbS
      have HIs := hide hIs
      clear hbS hIs
      have hX : gp < wr.heap.size := hgp
      have hXb : gb < wr.heap.size := hgb
      generalize (wr.alloc (.cells #[.int .i64 p.flow, .int .i64 p.seq, .int .i64 p.size, .int .i64 p.ready, .int .i64 p.start, .bool p.dropped, .bool p.told] 184)).drew = W1 at *
      have HSk := hide (fun (W : World) (hb : Below wr.heap.size wr W) (hf : fresh1 x.now p = false) => (unhide HG).skip hb (unhide HBk) (unhide HPi) hf)
      cases ht : p.told
      · by_cases hd : x.now < p.start + p.size
        · rw [ht] at y6
          have hf : fresh1 x.now p = false := by unfold fresh1; rw [ht]; simp; omega
          have hdd : decide (x.now < p.start + p.size) = true := by simpa using hd
          go_wp2_with fail
          go_quiet (fail)
          go_wp2_with fail
          refine ⟨?_, by simp [intOf]; omega⟩
          exact Exists.elim (unhide HSk (W1.drewN _) (below_drewN (unhide HBS) _) hf) fun o2 hS => ⟨k + 1, out, pk, o2, _, _, _, by go_num, by omega, hS⟩
        · rw [ht] at y6 e6
          have hf : fresh1 x.now p = true := by unfold fresh1; rw [ht]; simp; omega
          have hdd : decide (x.now < p.start + p.size) = false := by simpa using hd
          have HFr := hide hf
          clear HSk hf
          have zf := ((unhide HG).V.below (unhide HBS)).pkFree (i * 7 + 6)
          go_wp2_with fail
          go_quiet (fail)
          go_wp2_with fail
          have HW2 := hide (show Below wr.heap.size wr (W1.drewN nq).drew from (below_drewN (unhide HBS) nq).drew)
          have HI3 := hide (show Is (W1.drewN nq).drew wr.heap.size 184 _ from unhide HIs)
          refine wp_region_held_drew (S := (fun w' : World => w'.cell? ⟨P, 2, none⟩ = some (.slice (some ⟨gp, 0, none⟩) x.pk.length cp) ∧ w'.cell? ⟨P, 3, none⟩ = some (.slice (some ⟨gb, 0, none⟩) nb cb) ∧ w'.cell? ⟨gb, k, none⟩ = some (.int .i64 (i : Int)))) (by kernel_rfl) ⟨e2, e3, eb⟩ (fun hHeld => ?_)
          refine wpAnyH_take (i := 0) (v := ?_) rfl (by kernel_rfl) (by kernel_rfl) (by kernel_rfl) (fun _ _ _ h => h) (Or.inl ⟨by rfl, ?_⟩) (by assumption) ?_
          rotate_left
          · intro w hSw; (try dsimp only at hSw); go_simp; (try rfl)
          (try go_frame)
          refine wpAnyH_take (i := 1) (v := ?_) rfl (by kernel_rfl) (by kernel_rfl) (by kernel_rfl) (fun _ _ _ h => h) (Or.inl ⟨by rfl, ?_⟩) (by assumption) ?_
          rotate_left
          · intro w hSw; (try dsimp only at hSw); go_simp; (try rfl)
          (try go_frame)
          refine wpAnyH_take (i := 2) (v := ?_) rfl (by kernel_rfl) (by kernel_rfl) (by kernel_rfl) (fun _ _ _ h => h) (Or.inl ⟨by rfl, ?_⟩) (by assumption) ?_
          rotate_left
          · intro w hSw; (try dsimp only at hSw); go_simp; (try rfl)
          (try go_frame)
          refine wpAnyH_take (i := 3) (v := ?_) rfl (by kernel_rfl) (by kernel_rfl) (by kernel_rfl) (fun _ _ _ h => h) (Or.inl ⟨by rfl, ?_⟩) (by assumption) ?_
          rotate_left
          · intro w hSw; (try dsimp only at hSw); go_simp; (try rfl)
          (try go_frame)
          refine wpAnyH_take (i := 4) (v := ?_) rfl (by kernel_rfl) (by kernel_rfl) (by kernel_rfl) (fun _ _ _ h => h) (Or.inl ⟨by rfl, ?_⟩) (by assumption) ?_
          rotate_left
          · intro w hSw; (try dsimp only at hSw); go_simp; (try rfl)
          (try go_frame)
          refine wpAnyH_take (i := 5) (v := ?_) rfl (by kernel_rfl) (by kernel_rfl) (by kernel_rfl) (fun _ _ _ h => h) (Or.inl ⟨by rfl, ?_⟩) (by assumption) ?_
          rotate_left
          · intro w hSw; (try dsimp only at hSw); go_simp; (try rfl)
          (try go_frame)
          refine wpAnyH_take (i := 6) (v := ?_) rfl (by kernel_rfl) (by kernel_rfl) (by kernel_rfl) (fun _ _ _ h => h) (Or.inl ⟨by rfl, ?_⟩) (by assumption) ?_
          rotate_left
          · intro w hSw; (try dsimp only at hSw); go_simp; (try rfl)
          (try go_frame)
          refine wpAnyH_take (i := 7) (v := ?_) rfl (by kernel_rfl) (by kernel_rfl) (by kernel_rfl) (fun _ _ _ h => h) (Or.inl ⟨by rfl, ?_⟩) (by assumption) ?_
          rotate_left
          · intro w hSw; (try dsimp only at hSw); go_simp; (try rfl)
          (try go_frame)
          refine wpAnyH_take (i := 8) (v := ?_) rfl (by kernel_rfl) (by kernel_rfl) (by kernel_rfl) (fun _ _ _ h => h) (Or.inl ⟨by rfl, ?_⟩) (by assumption) ?_
          rotate_left
          · intro w hSw; (try dsimp only at hSw); go_simp; (try rfl)
          (try go_frame)
          refine wpAnyH_take (i := 9) (v := ?_) rfl (by kernel_rfl) (by kernel_rfl) (by kernel_rfl) (fun _ _ _ h => h) (Or.inl ⟨by rfl, ?_⟩) (by assumption) ?_
          rotate_left
          · intro w hSw; (try dsimp only at hSw); go_simp; (try rfl)
          (try go_frame)
          refine wpAnyH_take (i := 10) (v := ?_) rfl (by kernel_rfl) (by kernel_rfl) (by kernel_rfl) (fun _ _ _ h => h) (Or.inl ⟨by rfl, ?_⟩) (by assumption) ?_
          rotate_left
          · intro w hSw; (try dsimp only at hSw); go_simp; (try rfl)
          (try go_frame)
          refine wpAnyH_take (i := 11) (v := ?_) rfl (by kernel_rfl) (by kernel_rfl) (by kernel_rfl) (fun _ _ _ h => h) (Or.inl ⟨by rfl, ?_⟩) (by assumption) ?_
          rotate_left
          · intro w hSw; (try dsimp only at hSw); go_simp; (try rfl)
          (try go_frame)
          refine wpAnyH_take (i := 12) (v := ?_) rfl (by kernel_rfl) (by kernel_rfl) (by kernel_rfl) (fun _ _ _ h => h) (Or.inl ⟨by rfl, ?_⟩) (by assumption) ?_
          rotate_left
          · intro w hSw; (try dsimp only at hSw); go_simp; (try rfl)
          (try go_frame)
          refine wpAnyH_ready (rs := [13]) (by kernel_rfl) (by simp) (AllReadyH.cons rfl (fun K hK => ?_) AllReadyH.nil)
          go_simp
          obtain ⟨o2, hV2, hO2, hold2, hap2, hrow2⟩ := (unhide HG).tell (w1 := W1.drewN (nq + 1)) (i := i) (g := gp) (c := cp) (below_drewN (unhide HBS) _) (unhide HIl)
          have hb2 : ((W1.drewN (nq + 1)).setCell ⟨gp, i * 7 + 6, none⟩ (.bool true)).ownsRow 0 3 1 (.slice (some ⟨gb, 0, none⟩) nb cb) x.began.length (ncells x.began) := hV2.bg.1
          rw [unhide HNb] at hb2
          have hS2 : (fun w' : World => w'.cell? ⟨P, 2, none⟩ = some (.slice (some ⟨gp, 0, none⟩) x.pk.length cp) ∧ w'.cell? ⟨P, 3, none⟩ = some (.slice (some ⟨gb, 0, none⟩) nb cb) ∧ w'.cell? ⟨gb, k, none⟩ = some (.int .i64 (i : Int))) ((W1.drewN (nq + 1)).setCell ⟨gp, i * 7 + 6, none⟩ (.bool true)) := ⟨hV2.blk.cell (j := 2) rfl, hV2.blk.cell (j := 3) rfl, own_cell hb2 (by unfold ncells; rw [List.getElem?_map, unhide HBk]; rfl)⟩
          refine hK.out _ _ hS2 (fun hHeld => ?_)
          clear hK K hHeld hb2 hS2
          refine wpAnyH_done (by kernel_rfl) ?_ _
          have hI4 := (show Is (W1.drewN (nq + 1)) wr.heap.size 184 _ from unhide HIs).far (g := gp) (o := i * 7 + 6) (v := .bool true) (by omega)
          have HV2 := hide hV2
          have HO2 := hide hO2
          have HOld := hide hold2
          have HAp := hide hap2
          have HRo := hide hrow2
          clear hV2 hO2 hold2 hap2 hrow2 y0 y1 y2 y3 y4 y6 e0 e2 e3 eb e6 zf HW2 HI3
          generalize (W1.drewN (nq + 1)).setCell ⟨gp, i * 7 + 6, none⟩ (.bool true) = W3 at *
          have y0 : W3.cell? ⟨wr.heap.size, 0, none⟩ = some (.int .i64 p.flow) := hI4.cell (j := 0) rfl
          have y1 : W3.cell? ⟨wr.heap.size, 1, none⟩ = some (.int .i64 p.seq) := hI4.cell (j := 1) rfl
          have y2 : W3.cell? ⟨wr.heap.size, 2, none⟩ = some (.int .i64 p.size) := hI4.cell (j := 2) rfl
          have y3 : W3.cell? ⟨wr.heap.size, 3, none⟩ = some (.int .i64 p.ready) := hI4.cell (j := 3) rfl
          have y4 : W3.cell? ⟨wr.heap.size, 4, none⟩ = some (.int .i64 p.start) := hI4.cell (j := 4) rfl
          have hol : out.length ≤ 100000000 := by have := (unhide HG).ol; omega
          have hsz : w.heap.size ≤ W3.heap.size := (unhide HO2).size
          clear hI4
          go_wp2_with (at_builtin; refine wpList_append_lies _ (by rfl) _ _ 55 (by rfl) w.heap.size 63 i2 _ 6 48 Tryz.underlying55 (unhide HI2) (unhide HX0) (unhide HX1) (unhide HX2) rfl (by omega) _ out.length (gcells out) (by rfl) ((unhide HRo).alloc _) ⟨W3.heap.size, 0, none⟩ 1 1 (gcs p) (by rfl) (by rfl) (World.news_of_block (cs := #[.int .i64 p.flow, .int .i64 p.seq, .int .i64 p.size, .int .i64 p.ready, .int .i64 p.start, .int .i64 (p.start + p.size)]) (t := 63) (fr := (0, 0)) (heap_alloc_new W3 _)) (by simp [gcs, Value.oneCell']) (by omega) (by unfold maxLen; omega) (by omega) (by simp; omega) (W3.heap.size + 1) (by simp) ?_)
          intro g5 cap5 w5 hown hgrow hat hlt5
          have HM := hide ((unhide HG).more (unhide HV2) (unhide HO2) (unhide HOld) (unhide HAp) (unhide HRo) (bel_one _) hown hgrow (hat.imp id (fun e => by omega)) (unhide HBk) (unhide HPi) (unhide HFr))
          clear hown hgrow hat hlt5 HV2 HO2 HOld HAp HRo
          go_wp2_with fail
          refine ⟨?_, by simp [intOf]; omega⟩
          exact Exists.elim (unhide HM) fun o3 hS => ⟨k + 1, _, _, o3, _, _, _, by go_num, by omega, hS⟩
      · rw [ht] at y6
        have hf : fresh1 x.now p = false := by unfold fresh1; rw [ht]; rfl
        go_wp2_with fail
        go_quiet (fail)
        go_wp2_with fail
        refine ⟨?_, by simp [intOf]; omega⟩
        exact Exists.elim (unhide HSk (W1.drewN _) (below_drewN (unhide HBS) _) hf) fun o2 hS => ⟨k + 1, out, pk, o2, _, _, _, by go_num, by omega, hS⟩
    · have HE := hide (goneL_end (now := x.now) (l := x.began) (pk := pk) (k := k) (by rw [unhide HNb]; omega))
      clear hG
      go_wp2_with fail
      go_ret
      refine ⟨_, rfl, ?_, ?_⟩
      · have e : x.gone.1 = out := by show (goneL x.now x.began x.pk).1 = out; rw [(unhide HG).eq, unhide HE, List.append_nil]
        rw [e]; exact (unhide HG).row
      · have e : x.gone.2 = { x with pk := pk } := by show ({ x with pk := (goneL x.now x.began x.pk).2 } : Ln) = _; rw [(unhide HG).eq, unhide HE]
        rw [e]; exact ⟨_, _, _, _, (unhide HG).V, (unhide HG).O, (unhide HG).old⟩
end Go.Proofs.YtcnmajndackohaaGreatDoor
