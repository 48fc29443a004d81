import Derived.Test.YtcnmajndackohaaGreatDoorMg20
import Derived.Test.YtcnmajndackohaaGreatDoorMg13
import Derived.Test.YtcnmajndackohaaGreatDoorMg10
/-
  What keepInts does, step by step.
-/
namespace Go.Proofs.YtcnmajndackohaaGreatDoor
open Go.RowKit
theorem lsW4 {ps qs : List Nat} {gl : List Value} {gm : List Int} {il : List Value} {im : List Int} (u : Value) : (fun i => if i = 4 then lsW ps qs gl gm il im 4 ++ [u] else lsW ps qs gl gm il im i) = lsW ps qs gl gm (il ++ [u]) im := by
  funext i
  match i with
  | 0 | 1 | 2 | 3 | 4 | 5 => rfl
  | i + 6 => rfl
theorem lsW5 {ps qs : List Nat} {gl : List Value} {gm : List Int} {il : List Value} {im : List Int} (m : Int) : (fun i => if i = 5 then lsW ps qs gl gm il im 5 ++ [.int .i64 m] else lsW ps qs gl gm il im i) = lsW ps qs gl gm il (im ++ [m]) := by
  funext i
  match i with
  | 0 | 1 | 2 | 3 | 4 => rfl
  | 5 => show icells im ++ [.int .i64 m] = icells (im ++ [m]); unfold icells; rw [List.map_append]; rfl
  | i + 6 => rfl
/-- The world while a list is kept: l is the list, of n marks. -/
structure KpI (w wr : World) (B : Nat) (o o' : Whose) (vs' : Nat → Value) (ps qs : List Nat) (gl : List Value) (gm : List Int) (il : List Value) (im : List Int) (v l : Value) (n : Nat) (m : Int) (u0 u1 : Value) : Prop where
  c : WdC wr B o' vs' (lsW ps qs gl gm il im)
  k : Mks wr o' gl gm il im
  r : Rw wr o' 8 3 1 l n (reps (mkI m) n)
  hg : ∀ v' ∈ il, Hd l n 1 v' 1
  hi : ∀ v' ∈ gl, Hd l n 1 v' 6
  O : Only (fun i => own8 (o i) ∨ v.ownBlock = some i) w wr
  od : ∀ i, i < w.heap.size → v.ownBlock ≠ some i → o' i = o i
  e0 : vs' 0 = u0
  e1 : vs' 1 = u1
section
variable {w wr w1 w2 : World} {B : Nat} {o o' : Whose} {vs' : Nat → Value} {ps qs : List Nat} {gl : List Value} {gm : List Int} {il : List Value} {im : List Int} {v l v' u0 u1 : Value} {n g cap : Nat} {m : Int}
theorem KpI.own (h : KpI w wr B o o' vs' ps qs gl gm il im v l n m u0 u1) {i : Nat} (hi : i < w.heap.size) (k : own8 (o' i)) : own8 (o i) ∨ v.ownBlock = some i := by
  by_cases c : v.ownBlock = some i
  · exact .inr c
  · rw [h.od i hi c] at k; exact .inl k
theorem KpI.len (h : KpI w wr B o o' vs' ps qs gl gm il im v l n m u0 u1) : ∃ a c, l = .slice a n c := row_lenW h.r.1
theorem KpI.one (h : KpI w wr B o o' vs' ps qs gl gm il im v l n m u0 u1) (hb : Below wr.heap.size wr w1) (h' : w2.ownsRow 0 27 1 v' (il.length + 1) (il ++ [l])) (hgr : w1.grownBy w2 (vs' 4).ownBlock) (hat : ∀ g, v'.ownBlock = some g → (vs' 4).ownBlock = some g ∨ wr.heap.size ≤ g) (hle : im.length ≤ il.length) :
    KpI w (w2.setCell ⟨B, 4, none⟩ v') B o (o'.give wr.heap.size w2.heap.size 6) (fun i => if i = 4 then v' else vs' i) ps qs gl gm (il ++ [l]) im v l n m u0 u1 ∧ Is w2 B 30 #[vs' 0, vs' 1, vs' 2, vs' 3, vs' 4, vs' 5] := by
  obtain ⟨c1, c2, c3⟩ := h.c.grow (j := 4) (by decide) hb h' hgr hat
  rw [lsW4] at c1
  have old : ∀ i, i < wr.heap.size → o'.give wr.heap.size w2.heap.size 6 i = o' i := fun i hi => give_old hi
  have n8 : ∀ i, o' i = 1 ∨ o' i = 2 + 4 → o' i ≠ 8 := fun i hi => by omega
  have k1 := h.k.keep (o' := o'.give wr.heap.size w2.heap.size 6) c2 n8 (fun i hi e => (old i hi).trans e)
  refine ⟨⟨c1, ⟨k1.mg, fun i u z hu hz => ?_⟩, h.r.keepC c2 n8 (fun i hi e => (old i hi).trans e), fun u hu => ?_, h.hi, h.O.trans c2 fun i hi e => h.own hi (by rcases e with e | e <;> rw [e] <;> exact ⟨by decide, by decide⟩), fun i hi hn => (old i (Nat.lt_of_lt_of_le hi h.O.size)).trans (h.od i hi hn), h.e0, h.e1⟩, c3⟩
  · rcases Nat.lt_or_ge i il.length with q | q
    · rw [List.getElem?_append_left q] at hu
      exact k1.mi i u z hu hz
    · rw [List.getElem?_eq_none (by omega)] at hz; cases hz
  · rcases List.mem_append.1 hu with q | q
    · exact h.hg u q
    · rw [List.mem_singleton.1 q]
      obtain ⟨a, c, e⟩ := h.len
      intro g' n' c' e' _
      rw [e] at e'
      simp only [Value.slice.injEq] at e'
      rw [e'.2.1]
      exact Nat.le_refl _
theorem KpI.two (h : KpI w wr B o o' vs' ps qs gl gm (il ++ [l]) im v l n m u0 u1) (hb : Below wr.heap.size wr w1) (h' : w2.ownsRow 0 3 1 v' (im.length + 1) (icells im ++ [.int .i64 m])) (hgr : w1.grownBy w2 (vs' 5).ownBlock) (hat : ∀ g, v'.ownBlock = some g → (vs' 5).ownBlock = some g ∨ wr.heap.size ≤ g) (hle : im.length = il.length) :
    KpI w (w2.setCell ⟨B, 5, none⟩ v') B o (o'.give wr.heap.size w2.heap.size 7) (fun i => if i = 5 then v' else vs' i) ps qs gl gm (il ++ [l]) (im ++ [m]) v l n m u0 u1 ∧ Is w2 B 30 #[vs' 0, vs' 1, vs' 2, vs' 3, vs' 4, vs' 5] := by
  obtain ⟨c1, c2, c3⟩ := h.c.grow (j := 5) (by decide) hb (by show w2.ownsRow 0 _ 1 v' ((icells im).length + 1) (icells im ++ [.int .i64 m]); rw [show (icells im).length = im.length from by unfold icells; rw [List.length_map]]; exact h') hgr hat
  rw [lsW5] at c1
  have old : ∀ i, i < wr.heap.size → o'.give wr.heap.size w2.heap.size 7 i = o' i := fun i hi => give_old hi
  have n8 : ∀ i, o' i = 1 ∨ o' i = 2 + 5 → o' i ≠ 8 := fun i hi => by omega
  have k1 := h.k.keep (o' := o'.give wr.heap.size w2.heap.size 7) c2 n8 (fun i hi e => (old i hi).trans e)
  have r1 := h.r.keepC (o' := o'.give wr.heap.size w2.heap.size 7) c2 n8 (fun i hi e => (old i hi).trans e)
  refine ⟨⟨c1, ⟨k1.mg, fun i u z hu hz => ?_⟩, r1, h.hg, h.hi, h.O.trans c2 fun i hi e => h.own hi (by rcases e with e | e <;> rw [e] <;> exact ⟨by decide, by decide⟩), fun i hi hn => (old i (Nat.lt_of_lt_of_le hi h.O.size)).trans (h.od i hi hn), h.e0, h.e1⟩, c3⟩
  rcases Nat.lt_or_ge i im.length with q | q
  · rw [List.getElem?_append_left q] at hz
    exact k1.mi i u z hu hz
  · have e : i = im.length := by
      rcases Nat.lt_or_ge im.length i with c | c
      · rw [List.getElem?_eq_none (by rw [List.length_append]; simp; omega)] at hz; cases hz
      · omega
    subst e
    rw [List.getElem?_append_right (Nat.le_refl _), Nat.sub_self] at hz
    rw [hle, List.getElem?_append_right (Nat.le_refl _), Nat.sub_self] at hu
    have hz' : m = z := by simpa using hz
    have hu' : l = u := by simpa using hu
    rw [← hz', ← hu']
    exact mk_of (mk := mkI m) r1
theorem KpI.three (h : KpI w wr B o o' vs' ps qs gl gm il im v l n m u0 u1) (hb : Below wr.heap.size wr w1) (h' : w2.ownsRow 0 3 1 (.slice (some ⟨g, 0, none⟩) (n + 1) cap) (n + 1) (reps (mkI m) n ++ mkI m)) (hgr : w1.grownBy w2 l.ownBlock) (hat : l.ownBlock = some g ∨ (g = w1.heap.size ∧ Below w1.heap.size w1 w2)) (hlg : il.length = im.length) (hli : gl.length = gm.length) :
    KpI w w2 B o (o'.give wr.heap.size w2.heap.size 8) vs' ps qs gl gm il im v (.slice (some ⟨g, 0, none⟩) (n + 1) cap) (n + 1) m u0 u1 := by
  have hz : wr.heap.size ≤ w2.heap.size := Nat.le_trans hb.size hgr.size
  obtain ⟨k1, k2⟩ := h.r.grown hb h' hgr (fun g' hg' => by
    have e : g = g' := Option.some.inj hg'
    rcases hat with q | q
    · exact .inl (by rw [q, e])
    · exact .inr (by rw [← e, q.1]; exact hb.size))
  have old : ∀ i, i < wr.heap.size → o'.give wr.heap.size w2.heap.size 8 i = o' i := fun i hi => give_old hi
  have in8 : ∀ i, i < wr.heap.size → o' i = 8 → o'.give wr.heap.size w2.heap.size 8 i = 8 := fun i hi e => (old i hi).trans e
  have at1 : ∀ u ∈ il, ∃ z, Mk wr o' 1 (mkI z) u := fun u hu => by
    obtain ⟨i, hi, e⟩ := List.getElem_of_mem hu
    exact ⟨_, h.k.mi i u (im[i]'(by omega)) (by rw [← e]; exact List.getElem?_eq_getElem hi) (List.getElem?_eq_getElem _)⟩
  have at2 : ∀ u ∈ gl, ∃ z, Mk wr o' 6 (mkG z) u := fun u hu => by
    obtain ⟨i, hi, e⟩ := List.getElem_of_mem hu
    exact ⟨_, h.k.mg i u (gm[i]'(by omega)) (by rw [← e]; exact List.getElem?_eq_getElem hi) (List.getElem?_eq_getElem _)⟩
  have hd : ∀ {u : Value} {sv : Nat} {mk : List Value}, Mk wr o' sv mk u → Hd l n 1 u sv → Hd (.slice (some ⟨g, 0, none⟩) (n + 1) cap) (n + 1) 1 u sv := fun {u sv mk} hm hh g' n' c' e e' => by
    have eg : g = g' := Option.some.inj e'
    rcases hat with q | q
    · have := hh g' n' c' e (by rw [q, eg]); omega
    · rcases hm with hm | ⟨g2, n2, c2, e2, _, hlt, _⟩
      · rw [hm] at e; cases e
      · rw [e] at e2
        simp only [Value.slice.injEq, Option.some.injEq, Addr.mk.injEq] at e2
        have := e2.1.1
        have := hb.size
        omega
  refine ⟨h.c.keep k2 (fun i hi => by rw [hi]; omega) (fun i hi _ _ => old i hi) (give_free h.c.fr hz), ⟨fun i u z hu hm => ?_, fun i u z hu hm => ?_⟩, k1, fun u hu => ?_, fun u hu => ?_, h.O.trans k2 fun i hi e => h.own hi (by rw [e]; exact ⟨by decide, by decide⟩), fun i hi hn => (old i (Nat.lt_of_lt_of_le hi h.O.size)).trans (h.od i hi hn), h.e0, h.e1⟩
  · exact Mk.push (mk := mkG z) (h.k.mg i u z hu hm) hb h.r.1 h' hgr hat (h.hi u (List.mem_of_getElem? hu)) in8
  · exact Mk.push (mk := mkI z) (h.k.mi i u z hu hm) hb h.r.1 h' hgr hat (h.hg u (List.mem_of_getElem? hu)) in8
  · obtain ⟨z, hm⟩ := at1 u hu
    exact hd hm (h.hg u hu)
  · obtain ⟨z, hm⟩ := at2 u hu
    exact hd hm (h.hi u hu)
/-- At the start. -/
theorem KpI.start {vs : Nat → Value} (hO : Only (fun i => v.ownBlock = some i) w wr) (hc : WdC w B o vs (lsW ps qs gl gm il im)) (hk : Mks w o gl gm il im) (h0 : ∀ g, v.ownBlock = some g → o g = 0) (hr : wr.ownsRow 0 3 1 v n (reps (mkI m) n)) (hlg : il.length = im.length) (hli : gl.length = gm.length) :
    KpI w wr B o (fun i => if v.ownBlock = some i then 8 else o i) vs ps qs gl gm il im v v n m (vs 0) (vs 1) := by
  have ne : ∀ i, o i ≠ 0 → (fun i => if v.ownBlock = some i then 8 else o i) i = o i := fun i hi => if_neg fun c => hi (h0 i c)
  have nw : ∀ c, c ≠ 0 → ∀ i, v.ownBlock = some i → o i ≠ c := fun c hc i hi e => hc (by rw [← e, h0 i hi])
  have hd : ∀ {u : Value} {sv k : Nat} {mk : List Value}, Mk w o sv mk u → Hd v n k u sv := fun {u sv k mk} hm g' n' c' e e' => by
    rcases hm with hm | ⟨g2, n2, c2, e2, h8, _, _⟩
    · rw [hm] at e; cases e
    · rw [e] at e2
      simp only [Value.slice.injEq, Option.some.injEq, Addr.mk.injEq] at e2
      have := h0 g' e'
      rw [e2.1.1] at this
      omega
  refine ⟨hc.keep hO (fun i hi => by rw [h0 i hi]; omega) (fun i _ h1 _ => ne i (by omega)) (fun i hi => ?_), hk.keep hO (nw 8 (by decide)) (fun i _ e => (ne i (by omega)).trans e), ⟨hr, fun g hg => if_pos hg⟩, fun u hu => ?_, fun u hu => ?_, hO.mono fun i _ e => .inr e, fun i _ hn => if_neg hn, rfl, rfl⟩
  · show (if v.ownBlock = some i then 8 else o i) = 0
    rw [if_neg (fun c => by have := (ownsRow_lt hr i c).2; omega)]
    exact hc.fr i (Nat.le_trans hO.size hi)
  · obtain ⟨i, hi, e⟩ := List.getElem_of_mem hu
    exact hd (hk.mi i u (im[i]'(by omega)) (by rw [← e]; exact List.getElem?_eq_getElem hi) (List.getElem?_eq_getElem _))
  · obtain ⟨i, hi, e⟩ := List.getElem_of_mem hu
    exact hd (hk.mg i u (gm[i]'(by omega)) (by rw [← e]; exact List.getElem?_eq_getElem hi) (List.getElem?_eq_getElem _))
end
end Go.Proofs.YtcnmajndackohaaGreatDoor
/-
  What keepInts does.
-/
namespace Go.Proofs.YtcnmajndackohaaGreatDoor
open Go.RowKit
theorem infoLI : (Tryz.prog.info? 27).map (fun i => (i.zero, i.size, i.bytes)) = some (some (.slice none 0 0), 1, 24) := by kernel_rfl
set_option maxRecDepth 100000 in
set_option maxHeartbeats 4000000 in
theorem keepInts_any (w : World) (B : Nat) (o : Whose) (vs : Nat → Value) (ps qs : List Nat) (gl : List Value) (gm : List Int) (il : List Value) (im : List Int) (v : Value) (X : List Int)
    (hc : WdC w B o vs (lsW ps qs gl gm il im)) (hk : Mks w o gl gm il im) (hr : w.ownsRow 0 3 1 v X.length (icells X)) (h0 : ∀ g, v.ownBlock = some g → o g = 0) (hlg : il.length = im.length) (hli : gl.length = gm.length) (hX : X.length ≤ 1000000000) (hg9 : il.length ≤ 1000000000) :
    Calls Tryz.prog 110 #[.pointer (some ⟨B, 0, none⟩), v] w fun e w' => e = .returned (.tuple #[]) ∧ ∃ o' vs' il' im', WdC w' B o' vs' (lsW ps qs gl gm il' im') ∧ Mks w' o' gl gm il' im' ∧ il'.length = il.length + 4 ∧ im'.length = il.length + 4 ∧ Only (fun i => own8 (o i) ∨ v.ownBlock = some i) w w' ∧ (∀ i, i < w.heap.size → v.ownBlock ≠ some i → o' i = o i) ∧ vs' 0 = vs 0 ∧ vs' 1 = vs 1 := by
  obtain ⟨a, c, rfl⟩ := row_lenW hr
  obtain ⟨a3, c3, h3⟩ := hc.len 5 (by decide)
  have q3 : w.cell? ⟨B, 5, none⟩ = some (vs 5) := hc.blk.cell (j := 5) rfl
  rw [h3] at q3
  rw [show (lsW ps qs gl gm il im 5).length = im.length from by show (icells im).length = _; unfold icells; rw [List.length_map]] at q3
  obtain ⟨i0, hi0, hz0, hz1, hz2⟩ := info_anyR infoLI
  obtain ⟨i1, hi1, hy0, hy1, hy2⟩ := info_anyR infoIntW
  have HI0 := hide hi0
  have HZ0 := hide hz0
  have HZ1 := hide hz1
  have HZ2 := hide hz2
  have HI1 := hide hi1
  have HY0 := hide hy0
  have HY1 := hide hy1
  have HY2 := hide hy2
  obtain ⟨n, hn⟩ : ∃ n, X.length = n := ⟨_, rfl⟩
  obtain ⟨m3, hm3⟩ : ∃ m3, im.length = m3 := ⟨_, rfl⟩
  rw [hn] at hr hX h0 ⊢
  rw [hm3] at q3 hlg
  have HSt := hide (fun (wr : World) (m : Int) (hO : Only (fun i => (Value.slice a n c).ownBlock = some i) w wr) (hr : wr.ownsRow 0 3 1 (.slice a n c) n (reps (mkI m) n)) => KpI.start (n := n) (m := m) hO hc hk h0 hr (hlg.trans hm3.symm) hli)
  have HR := hide hr
  have HN := hide hn
  have HM := hide hm3
  have HLi := hide hli
  have HLg := hide hlg
  have hm9 : (m3 : Int) ≤ 1000000000 := by omega
  have hg10 : il.length = m3 := hlg
  clear hc hk hr h3 hi0 hz0 hz1 hz2 hi1 hy0 hy1 hy2 hn hm3 hli hlg h0
  go_enter Tryz.func110, Tryz.ntmps110
  go_wp2_with fail
  have hM0 : -2000000000 ≤ (-1000 - (m3 : Int)) := by omega
  generalize (-1000 - (m3 : Int)) = M at *
  go_loopw [5] (fun i wr => ∃ k : Nat, k ≤ n ∧ i = .int .i64 k ∧ wr.ownsRow 0 3 1 (.slice a n c) n (icells (ovr X M k)) ∧ Only (fun i => (Value.slice a n c).ownBlock = some i) w wr) (fun i _ => n - (intOf i).toNat)
  case atStart => exact ⟨0, Nat.zero_le _, rfl, unhide HR, Only.refl _ _⟩
  case round =>
    obtain ⟨k, hk, rfl, hrow, hon⟩ := hrel
    have HRow := hide hrow
    have HOn := hide hon
    by_cases hlt : k < n
    · have hkx : k < X.length := by rw [unhide HN]; exact hlt
      have hko : k < (ovr X M k).length := by rw [ovr_len k (by omega)]; exact hkx
      obtain ⟨g, c', hv, _, hgl⟩ := World.ownsRow.form hrow (by omega)
      simp only [Value.slice.injEq] at hv
      obtain ⟨rfl, _, rfl⟩ := hv
      have u0 : (icells (ovr X M k))[k]? = some (.int .i64 (ovr X M k)[k]) := by unfold icells; rw [List.getElem?_map, List.getElem?_eq_getElem hko]; rfl
      have q0 := own_cell hrow u0
      have z := own_free hrow
      have hi1 : (k : Int) < (n : Int) := by omega
      have HSet := hide (ovr_set (u := M) k hkx)
      have HMk := hide (own_markI (k := k) hrow M)
      have HOk := hide (hon.setCell (g := g) (o := k) (v := .int .i64 M) (.inl rfl))
      rw [unhide HSet] at HMk
      clear hrow hon HSet
      generalize (ovr X M k)[k] = pk at *
      clear u0 hko hkx
      go_wp2_with fail
      go_roundw
      case rel => exact ⟨k + 1, by omega, by go_num, unhide HMk, unhide HOk⟩
      case measure => simp [intOf]; omega
    · have hkn : k = n := by omega
      subst hkn
      have hrep : wr.ownsRow 0 3 1 (.slice a k c) k (reps (mkI M) k) := by
        have h1 := hrow
        have e : ovr X M k = List.replicate k M := by rw [← unhide HN]; exact ovr_end
        rw [e, icells_reps] at h1
        exact h1
      have HS0 := hide (unhide HSt wr M hon hrep)
      clear hrow hon hrep HSt HRow HR HOn
      go_wp2_with fail
      go_loopw [1, 6] (fun l i w0 => ∃ (j : Nat) (o' : Whose) (vs' : Nat → Value) (il' : List Value) (im' : List Int), i = .int .i64 (j : Int) ∧ j ≤ 4 ∧ il'.length = m3 + j ∧ im'.length = m3 + j ∧ KpI w w0 B o o' vs' ps qs gl gm il' im' (.slice a k c) l (k + j) M (vs 0) (vs 1)) (fun _ i _ => 4 - (intOf i).toNat)
      case atStart => exact ⟨0, _, vs, il, im, rfl, by decide, unhide HLg, unhide HM, unhide HS0⟩
      case round =>
        obtain ⟨j, o', vs', il', im', rfl, hj, hl1, hl2, hK⟩ := hrel
        clear HS0
        by_cases hj4 : j < 4
        · obtain ⟨al, cl, hal⟩ := hK.len
          subst hal
          obtain ⟨a2, c2, h2⟩ := hK.c.len 4 (by decide)
          obtain ⟨a4, c4, h4⟩ := hK.c.len 5 (by decide)
          have e2 : (lsW ps qs gl gm il' im' 4).length = m3 + j := hl1
          have e3 : (lsW ps qs gl gm il' im' 5).length = m3 + j := by show (icells im').length = _; unfold icells; rw [List.length_map]; exact hl2
          rw [e2] at h2
          rw [e3] at h4
          have q2 : wr.cell? ⟨B, 4, none⟩ = some (.slice a2 (m3 + j) c2) := by rw [← h2]; exact hK.c.blk.cell (j := 4) rfl
          have HR2 := hide (show wr.ownsRow 0 27 1 (.slice a2 (m3 + j) c2) (m3 + j) il' from by have h1 := (hK.c.rw 4 (by decide)).1; rw [h2, e2] at h1; exact h1)
          have HK := hide hK
          have HL1 := hide hl1
          have HL2 := hide hl2
          have HE2 := hide h2
          have HE4 := hide h4
          clear hK hl1 hl2 h2 h4 e2 e3
          go_wp2_with (at_builtin; refine wpList_append_lies _ (by rfl) _ _ 28 (by rfl) 0 27 i0 _ 1 24 Tryz.underlying28 (unhide HI0) (unhide HZ0) (unhide HZ1) (unhide HZ2) rfl (by omega) _ (m3 + j) il' (by rfl) ((unhide HR2).alloc _) ⟨wr.heap.size, 0, none⟩ 1 1 [.slice al (k + j) cl] (by rfl) (by rfl) (World.news_of_block (cs := #[.slice al (k + j) cl]) (t := 27) (fr := (0, 0)) (heap_alloc_new wr _)) (by simp [Value.oneCell']) (by omega) (by unfold maxLen; omega) (by omega) (Nat.zero_le _) (wr.heap.size + 1) (by simp) ?_)
          intro g5 cap5 w5 hown hgrow hat hlt5
          have hX1 := (unhide HK).one (bel_one _) (by rw [unhide HL1]; exact hown) (by rw [unhide HE2]; exact hgrow) (fun g' hg' => by
            rw [unhide HE2]
            exact hat.imp (fun e => e.trans hg') (fun e => by have e' : g5 = g' := Option.some.inj hg'; omega)) (by rw [unhide HL1, unhide HL2]; exact Nat.le_refl _)
          have c5 : w5.cell? ⟨B, 4, none⟩ = some (vs' 4) := hX1.2.cell (j := 4) rfl
          have z5 := hX1.2.frozen 4
          have HX := hide hX1.1
          have q7 : (w5.setCell ⟨B, 4, none⟩ (.slice (some ⟨g5, 0, none⟩) (m3 + j + 1) cap5)).cell? ⟨B, 5, none⟩ = some (.slice a4 (m3 + j) c4) := by rw [← unhide HE4]; exact hX1.1.c.blk.cell (j := 5) rfl
          have HR3 := hide (show (w5.setCell ⟨B, 4, none⟩ (.slice (some ⟨g5, 0, none⟩) (m3 + j + 1) cap5)).ownsRow 0 3 1 (.slice a4 (m3 + j) c4) (m3 + j) (icells im') from by
            have h1 := (hX1.1.c.rw 5 (by decide)).1
            have h2 : (w5.setCell ⟨B, 4, none⟩ (.slice (some ⟨g5, 0, none⟩) (m3 + j + 1) cap5)).ownsRow 0 3 1 (vs' 5) (icells im').length (icells im') := h1
            rw [unhide HE4, show (icells im').length = m3 + j from by unfold icells; rw [List.length_map]; exact unhide HL2] at h2
            exact h2)
          clear hX1 hown hgrow hat hlt5 q2 HR2
          go_wp2_with (at_builtin; refine wpList_append_lies _ (by rfl) _ _ 27 (by rfl) 0 3 i1 _ 1 8 Tryz.underlying27 (unhide HI1) (unhide HY0) (unhide HY1) (unhide HY2) rfl (by omega) _ (m3 + j) (icells im') (by rfl) ((unhide HR3).alloc _) ⟨w5.heap.size, 0, none⟩ 1 1 [.int .i64 M] (by rfl) (by rfl) (World.news_of_block (cs := #[.int .i64 M]) (t := 3) (fr := (0, 0)) (by have := heap_alloc_new (w5.setCell ⟨B, 4, none⟩ (.slice (some ⟨g5, 0, none⟩) (m3 + j + 1) cap5)) (.cells #[.int .i64 M] 3); rwa [set_sz] at this)) (by simp [Value.oneCell']) (by omega) (by unfold maxLen; omega) (by omega) (Nat.zero_le _) (w5.heap.size + 1) (by simp) ?_)
          generalize hw6 : w5.setCell ⟨B, 4, none⟩ (.slice (some ⟨g5, 0, none⟩) (m3 + j + 1) cap5) = w6 at *
          have hs6 : w6.heap.size = w5.heap.size := by rw [← hw6, set_sz]
          intro g7 cap7 w7 hown hgrow hat hlt7
          have hX2 := (unhide HX).two (bel_one _) (by rw [unhide HL2]; exact hown) (by show (w6.alloc _).grownBy w7 (vs' 5).ownBlock; rw [unhide HE4]; exact hgrow) (fun g' hg' => by
            show (vs' 5).ownBlock = _ ∨ _
            rw [unhide HE4]
            exact hat.imp (fun e => e.trans hg') (fun e => by have e' : g7 = g' := Option.some.inj hg'; omega)) (by rw [unhide HL1, unhide HL2])
          have c7 : w7.cell? ⟨B, 5, none⟩ = some (vs' 5) := hX2.2.cell (j := 5) rfl
          have z7 := hX2.2.frozen 5
          have HS2 := hide hX2.1
          have HR4 := hide hX2.1.r.1
          clear hX2 hown hgrow hat hlt7 q7 HR3 c5 z5 HX hw6
          go_wp2_with (at_builtin; refine wpList_append_far _ (by rfl) _ _ 27 (by rfl) 3 i1 _ 1 8 Tryz.underlying27 (unhide HI1) (unhide HY0) (unhide HY1) (unhide HY2) rfl (by omega) _ (k + j) (reps (mkI M) (k + j)) (by rfl) ((unhide HR4).alloc _) ⟨w7.heap.size, 0, none⟩ 1 1 (mkI M) (by rfl) (by rfl) (World.news_of_block (cs := #[.int .i64 M]) (t := 3) (fr := (0, 0)) (by have := heap_alloc_new (w7.setCell ⟨B, 5, none⟩ (.slice (some ⟨g7, 0, none⟩) (m3 + j + 1) cap7)) (.cells #[.int .i64 M] 3); rwa [set_sz] at this)) (by simp [mkI, Value.oneCell']) (by omega) (by unfold maxLen; omega) (by omega) ?_)
          generalize hw8 : w7.setCell ⟨B, 5, none⟩ (.slice (some ⟨g7, 0, none⟩) (m3 + j + 1) cap7) = w8 at *
          have hs8 : w8.heap.size = w7.heap.size := by rw [← hw8, set_sz]
          intro g9 cap9 w9 hown hgrow hat hlt9
          have HS3 := hide ((unhide HS2).three (bel_one _) hown hgrow (by rw [World.size_alloc, hs8]; exact hat) (by rw [List.length_append, List.length_append, unhide HL1, unhide HL2]; rfl) (unhide HLi))
          clear hown hgrow hat hlt9 HS2 HR4 c7 z7 hw8
          go_wp2_with fail
          go_roundw
          case rel => exact ⟨j + 1, _, _, _, _, by go_num, by omega, by rw [List.length_append, unhide HL1]; rfl, by rw [List.length_append, unhide HL2]; rfl, unhide HS3⟩
          case measure => simp [intOf]; omega
        · have hj5 : j = 4 := by omega
          subst hj5
          have HK := hide hK
          clear hK
          go_wp2_with fail
          go_end0
          exact ⟨rfl, _, _, il', im', (unhide HK).c, (unhide HK).k, by omega, by omega, (unhide HK).O, (unhide HK).od, (unhide HK).e0, (unhide HK).e1⟩
end Go.Proofs.YtcnmajndackohaaGreatDoor
/-
  What kept tells: every list that came out holds its mark.
-/
namespace Go.Proofs.YtcnmajndackohaaGreatDoor
open Go.RowKit
set_option maxRecDepth 100000 in
set_option maxHeartbeats 4000000 in
theorem kept_any (w : World) (B : Nat) (o : Whose) (vs : Nat → Value) (ps qs : List Nat) (gl : List Value) (gm : List Int) (il : List Value) (im : List Int)
    (hc : WdC w B o vs (lsW ps qs gl gm il im)) (hk : Mks w o gl gm il im) (hlg : gl.length = gm.length) (hli : il.length = im.length) (hg9 : gl.length ≤ 1000000000) (hi9 : il.length ≤ 1000000000) :
    Calls Tryz.prog 30 #[.pointer (some ⟨B, 0, none⟩)] w fun e w' => e = .returned (.bool true) ∧ Below w.heap.size w w' := by
  have HC := hide hc
  have HK := hide hk
  obtain ⟨a2, c2, h2⟩ := hc.len 2 (by decide)
  obtain ⟨a4, c4, h4⟩ := hc.len 4 (by decide)
  obtain ⟨G, hG⟩ : ∃ G, gl.length = G := ⟨_, rfl⟩
  obtain ⟨I, hI⟩ : ∃ I, il.length = I := ⟨_, rfl⟩
  rw [show (lsW ps qs gl gm il im 2).length = G from hG] at h2
  rw [show (lsW ps qs gl gm il im 4).length = I from hI] at h4
  have HQ2 := hide (fun (W : World) (h : Below w.heap.size w W) => show W.cell? ⟨B, 2, none⟩ = some (.slice a2 G c2) from by rw [← h2]; exact (hc.below h).blk.cell (j := 2) rfl)
  have HQ4 := hide (fun (W : World) (h : Below w.heap.size w W) => show W.cell? ⟨B, 4, none⟩ = some (.slice a4 I c4) from by rw [← h4]; exact (hc.below h).blk.cell (j := 4) rfl)
  have HG := hide hG
  have HI := hide hI
  have HLg := hide hlg
  have HLi := hide hli
  have hG9 : (G : Int) ≤ 1000000000 := by omega
  have hI9 : (I : Int) ≤ 1000000000 := by omega
  have HE2 := hide h2
  have HE4 := hide h4
  clear hc hk hlg hli hg9 hi9 hG hI h2 h4
  go_enter Tryz.func30, Tryz.ntmps30
  go_wp2_with fail
  go_loopw [3] (fun i wr => ∃ k : Nat, k ≤ G ∧ i = .int .i64 k ∧ Below w.heap.size w wr) (fun i _ => G - (intOf i).toNat)
  case atStart => exact ⟨0, Nat.zero_le _, rfl, Below.refl _ _⟩
  case round =>
    obtain ⟨k, hk, rfl, hbel⟩ := hrel
    have HB := hide hbel
    have q2 := unhide HQ2 wr hbel
    by_cases hlt : k < G
    · have hki : (k : Int) < (G : Int) := by omega
      have hkg : k < gl.length := by rw [unhide HG]; exact hlt
      have hkm : k < gm.length := by rw [← unhide HLg]; exact hkg
      have HMk := hide ((unhide HK).mg k gl[k] gm[k] (List.getElem?_eq_getElem hkg) (List.getElem?_eq_getElem hkm))
      obtain ⟨g2, c2', e2, hg2, f2⟩ := (unhide HC).at 2 (by decide) (i := k) (u := gl[k]) (List.getElem?_eq_getElem hkg)
      obtain ⟨g3, c3, e3, hg3, f3⟩ := (unhide HC).at 3 (by decide) (i := k) (u := .int .i64 gm[k]) (by show (icells gm)[k]? = _; unfold icells; rw [List.getElem?_map, List.getElem?_eq_getElem hkm]; rfl)
      have e2' := (unhide HE2).symm.trans e2
      simp only [Value.slice.injEq] at e2'
      obtain ⟨rfl, _, rfl⟩ := e2'
      have e4 : (lsW ps qs gl gm il im 3).length = G := by show (icells gm).length = _; unfold icells; rw [List.length_map, ← unhide HLg]; exact unhide HG
      have w3 : w.cell? ⟨B, 3, none⟩ = some (.slice (some ⟨g3, 0, none⟩) G c3) := by rw [← e4, ← e3]; exact (unhide HC).blk.cell (j := 3) rfl
      have hBl := (unhide HC).blk.lt
      clear e2 e3 e4
      generalize gl[k] = v at *
      generalize gm[k] = m at *
      clear hkg hkm
      obtain ⟨a, n, c, rfl, hn, hcell⟩ := (unhide HMk).gone
      have HCell := hide hcell
      have r2 := (hbel.cell (p := ⟨g2, k, none⟩) hg2).trans f2
      clear hcell hbel HMk
      unfold maxLen at hn
      go_wp2_with fail
      go_loopw [4] (fun i w0 => ∃ j : Nat, j ≤ n ∧ i = .int .i64 j ∧ Below w.heap.size w w0) (fun i _ => n - (intOf i).toNat)
      case atStart => exact ⟨0, Nat.zero_le _, rfl, unhide HB⟩
      case round =>
        obtain ⟨j, hj, rfl, hbel⟩ := hrel
        have HB2 := hide hbel
        clear q2 r2 HB
        have q2 := unhide HQ2 wr hbel
        have r2 := (hbel.cell (p := ⟨g2, k, none⟩) hg2).trans f2
        by_cases hjn : j < n
        · obtain ⟨g, rfl, hg, y0, y1, y2, y3, y4, y5⟩ := unhide HCell j hjn
          have q3 := (hbel.cell (p := ⟨B, 3, none⟩) hBl).trans w3
          have r3 := (hbel.cell (p := ⟨g3, k, none⟩) hg3).trans f3
          have x0 := (hbel.cell (p := ⟨g, j * 6, none⟩) hg).trans y0
          have x1 := (hbel.cell (p := ⟨g, j * 6 + 1, none⟩) hg).trans y1
          have x2 := (hbel.cell (p := ⟨g, j * 6 + 2, none⟩) hg).trans y2
          have x3 := (hbel.cell (p := ⟨g, j * 6 + 3, none⟩) hg).trans y3
          have x4 := (hbel.cell (p := ⟨g, j * 6 + 4, none⟩) hg).trans y4
          have x5 := (hbel.cell (p := ⟨g, j * 6 + 5, none⟩) hg).trans y5
          have hji : (j : Int) < (n : Int) := by omega
          clear y0 y1 y2 y3 y4 y5 hbel
          go_wp2_with fail
          go_quiet (fail)
          go_wp2_with fail
          go_roundw
          case rel => exact ⟨j + 1, by omega, by go_num, below_drewN (unhide HB2) _⟩
          case measure => simp [intOf]; omega
        · clear hbel
          go_wp2_with fail
          go_roundw
          case rel => exact ⟨k + 1, by omega, by go_num, unhide HB2⟩
          case measure => simp [intOf]; omega
    · have HBG := hide hbel
      clear hbel HB
      go_wp2_with fail
      go_loopw [5] (fun i wr => ∃ k : Nat, k ≤ I ∧ i = .int .i64 k ∧ Below w.heap.size w wr) (fun i _ => I - (intOf i).toNat)
      case atStart => exact ⟨0, Nat.zero_le _, rfl, unhide HBG⟩
      case round =>
        obtain ⟨k, hk, rfl, hbel⟩ := hrel
        have HB := hide hbel
        have q2 := unhide HQ4 wr hbel
        by_cases hlt : k < I
        · have hki : (k : Int) < (I : Int) := by omega
          have hkg : k < il.length := by rw [unhide HI]; exact hlt
          have hkm : k < im.length := by rw [← unhide HLi]; exact hkg
          have HMk := hide ((unhide HK).mi k il[k] im[k] (List.getElem?_eq_getElem hkg) (List.getElem?_eq_getElem hkm))
          obtain ⟨g2, c2', e2, hg2, f2⟩ := (unhide HC).at 4 (by decide) (i := k) (u := il[k]) (List.getElem?_eq_getElem hkg)
          obtain ⟨g3, c3, e3, hg3, f3⟩ := (unhide HC).at 5 (by decide) (i := k) (u := .int .i64 im[k]) (by show (icells im)[k]? = _; unfold icells; rw [List.getElem?_map, List.getElem?_eq_getElem hkm]; rfl)
          have e2' := (unhide HE4).symm.trans e2
          simp only [Value.slice.injEq] at e2'
          obtain ⟨rfl, _, rfl⟩ := e2'
          have e4 : (lsW ps qs gl gm il im 5).length = I := by show (icells im).length = _; unfold icells; rw [List.length_map, ← unhide HLi]; exact unhide HI
          have w3 : w.cell? ⟨B, 5, none⟩ = some (.slice (some ⟨g3, 0, none⟩) I c3) := by rw [← e4, ← e3]; exact (unhide HC).blk.cell (j := 5) rfl
          have hBl := (unhide HC).blk.lt
          clear e2 e3 e4
          generalize il[k] = v at *
          generalize im[k] = m at *
          clear hkg hkm
          obtain ⟨a, n, c, rfl, hn, hcell⟩ := (unhide HMk).ints
          have HCell := hide hcell
          have r2 := (hbel.cell (p := ⟨g2, k, none⟩) hg2).trans f2
          clear hcell hbel HMk
          unfold maxLen at hn
          go_wp2_with fail
          go_loopw [6] (fun i w0 => ∃ j : Nat, j ≤ n ∧ i = .int .i64 j ∧ Below w.heap.size w w0) (fun i _ => n - (intOf i).toNat)
          case atStart => exact ⟨0, Nat.zero_le _, rfl, unhide HB⟩
          case round =>
            obtain ⟨j, hj, rfl, hbel⟩ := hrel
            have HB2 := hide hbel
            clear q2 r2 HB
            have q2 := unhide HQ4 wr hbel
            have r2 := (hbel.cell (p := ⟨g2, k, none⟩) hg2).trans f2
            by_cases hjn : j < n
            · obtain ⟨g, rfl, hg, y0⟩ := unhide HCell j hjn
              have q3 := (hbel.cell (p := ⟨B, 5, none⟩) hBl).trans w3
              have r3 := (hbel.cell (p := ⟨g3, k, none⟩) hg3).trans f3
              have x0 := (hbel.cell (p := ⟨g, j, none⟩) hg).trans y0
              have hji : (j : Int) < (n : Int) := by omega
              clear y0 hbel
              go_wp2_with fail
              go_quiet (fail)
              go_wp2_with fail
              go_roundw
              case rel => exact ⟨j + 1, by omega, by go_num, below_drewN (unhide HB2) _⟩
              case measure => simp [intOf]; omega
            · clear hbel
              go_wp2_with fail
              go_roundw
              case rel => exact ⟨k + 1, by omega, by go_num, unhide HB2⟩
              case measure => simp [intOf]; omega
        · have HB3 := hide hbel
          clear hbel HB
          go_wp2_with fail
          go_ret
          exact ⟨rfl, unhide HB3⟩
end Go.Proofs.YtcnmajndackohaaGreatDoor
/-
  What the document's New does; one flow more.
-/
namespace Go.Proofs.YtcnmajndackohaaGreatDoor
open Go.RowKit
attribute [local go_sem ↓] Go.wp_at_zero Go.wp_at_succ
theorem scells_append (l m : List Stt) : scells (l ++ m) = scells l ++ scells m := by
  induction l with
  | nil => rfl
  | cons p l ih => simp only [List.cons_append, scells, ih, List.append_assoc]
section
variable {w w1 w2 : World} {P : Nat} {x : Ln} {o : Whose} {vf vp vb : Value}
/-- One flow more. -/
theorem RefV.flOn (h : RefV w P x o vf vp vb) {v' : Value} {st : Stt} (hb : Below w.heap.size w w1) (h' : w2.ownsRow 0 107 6 v' (x.fl.length + 1) (scells x.fl ++ scells [st])) (hg : w1.grownBy w2 vf.ownBlock) (hat : ∀ g, v'.ownBlock = some g → vf.ownBlock = some g ∨ w.heap.size ≤ g) :
    Is w2 P 105 #[.int .i64 x.now, vf, vp, vb] ∧ RefV (w2.setCell ⟨P, 1, none⟩ v') P { x with fl := x.fl ++ [st] } (o.give w.heap.size w2.heap.size 2) v' vp vb ∧ Only (fun i => o i ≠ 0) w (w2.setCell ⟨P, 1, none⟩ v') := by
  obtain ⟨hr, ho⟩ := h.fl.grown hb h' hg hat
  have hI : Is w2 P 105 #[.int .i64 x.now, vf, vp, vb] := by
    refine (hg.block P (Nat.lt_of_lt_of_le h.blk.lt hb.size) (fun e => ?_)).trans (h.blk.below hb)
    have := h.fl.2 P e.symm
    rw [h.pb] at this; cases this
  have ho2 : Only (fun i => o i = 2 ∨ i = P) w (w2.setCell ⟨P, 1, none⟩ v') := (ho.mono fun i _ k => .inl k).setCell (.inl (.inr rfl))
  have old : ∀ i, i < w.heap.size → o.give w.heap.size w2.heap.size 2 i = o i := fun i hi => give_old hi
  have ne : ∀ d, d ≠ 2 → d ≠ 1 → ∀ i, (o i = 2 ∨ i = P) → o i ≠ d := fun d h3 h1 i hi e => by
    rcases hi with k | k
    · exact h3 (e.symm.trans k)
    · rw [k, h.pb] at e; exact h1 e.symm
  refine ⟨hI, ⟨hI.set 1 v', ?_, h.pk.keep ho2 (ne 3 (by decide) (by decide)) old, h.bg.keep ho2 (ne 4 (by decide) (by decide)) old, (old P h.blk.lt).trans h.pb, ?_⟩, ho2.mono fun i _ k => ?_⟩
  · refine Rw.keep (S := fun i => i = P) (o := o.give w.heap.size w2.heap.size 2) (c := 2) ?_ (only_set _ _ _ _) (fun i e => ?_) (fun _ _ => rfl)
    · rw [scells_append, List.length_append]; exact hr
    · rw [e, old P h.blk.lt, h.pb]; decide
  · intro i hi
    rw [set_sz] at hi
    exact give_free h.fr ho.size i hi
  · rcases k with k | k
    · rw [k]; decide
    · rw [k, h.pb]; decide
end
theorem infoSt : (Tryz.prog.info? 107).map (fun i => (i.zero, i.size, i.bytes)) = some (some (.agg #[.int .i64 0, .int .i64 0, .int .i64 0, .int .i64 0, .int .i64 0, .int .i64 0]), 6, 48) := by kernel_rfl
/-- A line with nothing. -/
def oBase (b : Nat) : Whose := fun i => if i = b then 1 else 0
theorem ref_base (w : World) : RefV (w.alloc (.cells #[.int .i64 0, .slice none 0 0, .slice none 0 0, .slice none 0 0] 105)) w.heap.size (Ln.new []) (oBase w.heap.size) (.slice none 0 0) (.slice none 0 0) (.slice none 0 0) := by
  refine ⟨Is.new w _ _, ⟨World.ownsRow_nil _ _ _ _, fun g hg => (by cases hg)⟩, ⟨World.ownsRow_nil _ _ _ _, fun g hg => (by cases hg)⟩, ⟨World.ownsRow_nil _ _ _ _, fun g hg => (by cases hg)⟩, ?_, fun i hi => ?_⟩
  · show (if w.heap.size = w.heap.size then 1 else 0) = 1
    rw [if_pos rfl]
  · rw [World.size_alloc] at hi
    show (if i = w.heap.size then 1 else 0) = 0
    rw [if_neg (by omega)]
theorem new_take {l : List Fl} {i : Nat} (h : i < l.length) : Ln.new (l.take (i + 1)) = { Ln.new (l.take i) with fl := (Ln.new (l.take i)).fl ++ [⟨l[i], 0⟩] } := by
  unfold Ln.new
  rw [List.take_succ_eq_append_getElem h, List.map_append]
  rfl
set_option maxRecDepth 100000 in
set_option maxHeartbeats 4000000 in
theorem rnew_bad (v : Value) (l : List Fl) (w : World) (hw : Fls w v l) (hl : l.length ≤ maxLen) (ha : allB l = false) :
    Calls Tryz.prog 33 #[v] w fun e w' => e = .returned (.tuple #[.pointer none, .int .i64 1]) ∧ Below w.heap.size w w' := by
  have HA := hide (rall_F v l w hw hl)
  rw [ha] at HA
  clear hw hl ha
  go_enter Tryz.func33, Tryz.ntmps33
  go_wp2_with fail
  refine (unhide HA).mono ?_
  rintro e w1 ⟨rfl, hb1⟩
  have HB1 := hide hb1
  clear hb1 HA
  go_wp2_with fail
  go_ret2
  exact ⟨rfl, unhide HB1⟩
set_option maxRecDepth 100000 in
set_option maxHeartbeats 4000000 in
theorem rnew_some (g o c : Nat) (l : List Fl) (w : World) (hw : Lies w g o l) (hl : l.length ≤ 6) (ha : allB l = true) :
    Calls Tryz.prog 33 #[.slice (some ⟨g, o, none⟩) l.length c] w fun e w' => ∃ P ow vf vp vb, e = .returned (.tuple #[.pointer (some ⟨P, 0, none⟩), .int .i64 0]) ∧ RefV w' P (Ln.new l) ow vf vp vb ∧ (∀ i, ow i ≠ 0 → w.heap.size ≤ i) ∧ Below w.heap.size w w' := by
  have HA := hide (rall_F _ l w (.inr ⟨g, o, c, rfl, hw⟩) (by unfold maxLen; omega))
  rw [ha] at HA
  obtain ⟨i0, hi0, hz0, hz1, hz2⟩ := info_anyR infoSt
  have HI0 := hide hi0
  have HZ0 := hide hz0
  have HZ1 := hide hz1
  have HZ2 := hide hz2
  have HW := hide hw
  obtain ⟨n, hn⟩ : ∃ n, l.length = n := ⟨_, rfl⟩
  rw [hn] at HA hl ⊢
  have HN := hide hn
  clear hw ha hi0 hz0 hz1 hz2 hn
  go_enter Tryz.func33, Tryz.ntmps33
  go_wp2_with fail
  refine (unhide HA).mono ?_
  rintro e w1 ⟨rfl, hb1⟩
  have HB1 := hide hb1
  have HRb := hide (ref_base w1)
  have HBb := hide (bel_then hb1 (bel_one (w := w1) (.cells #[.int .i64 0, .slice none 0 0, .slice none 0 0, .slice none 0 0] 105)))
  have hsz := hb1.size
  clear hb1 HA
  go_wp2_with fail
  have HOb := hide (show ∀ j, oBase w1.heap.size j ≠ 0 → w.heap.size ≤ j from fun j hj => by
    rcases Nat.lt_or_ge j w.heap.size with c | c
    · exfalso
      apply hj
      show (if j = w1.heap.size then 1 else 0) = 0
      rw [if_neg (by omega)]
    · exact c)
  go_loopw [6] (fun v wr => ∃ (i : Nat) (ow : Whose) (vf vp vb : Value), v = .int .i64 (i : Int) ∧ i ≤ n ∧ RefV wr w1.heap.size (Ln.new (l.take i)) ow vf vp vb ∧ (∀ j, ow j ≠ 0 → w.heap.size ≤ j) ∧ Below w.heap.size w wr) (fun v _ => n - (intOf v).toNat)
  case atStart => exact ⟨0, _, _, _, _, rfl, Nat.zero_le _, unhide HRb, unhide HOb, unhide HBb⟩
  case round =>
    obtain ⟨i, ow, vf, vp, vb, rfl, hi, hV, hO, hB⟩ := hrel
    have HV := hide hV
    have HO := hide hO
    have HB := hide hB
    by_cases hlt : i < n
    · have hil : i < l.length := by rw [unhide HN]; exact hlt
      have hii : (i : Int) < (n : Int) := by omega
      have hL := (unhide HW).below hB
      have q0 := hL.c0 i hil
      have q1 := hL.c1 i hil
      have q2 := hL.c2 i hil
      have q3 := hL.c3 i hil
      have q4 := hL.c4 i hil
      have HTk := hide (new_take hil)
      have hxl : (Ln.new (l.take i)).fl.length = i := by show ((l.take i).map _).length = i; rw [List.length_map, List.length_take]; omega
      generalize l[i] = f at *
      obtain ⟨af, cf, hvf⟩ := (unhide HV).flLen
      rw [hxl] at hvf
      have c1 : wr.cell? ⟨w1.heap.size, 1, none⟩ = some (.slice af i cf) := by rw [← hvf]; exact hV.blk.cell (j := 1) rfl
      have HVf := hide hvf
      have hPl := hV.blk.lt
      have c1A := (World.cell?_alloc_past (w := wr) (.cells #[.int .i64 f.s, .int .i64 f.p, .int .i64 f.b, .int .i64 f.r, .int .i64 f.d, .int .i64 0] 107) w1.heap.size 1 hPl).trans c1
      have HR := hide (show wr.ownsRow 0 107 6 (.slice af i cf) i (scells (Ln.new (l.take i)).fl) from by have h1 := hV.fl.1; rw [hvf, hxl] at h1; exact h1)
      have HXl := hide hxl
      clear hL hV hO hB hvf hxl
      have HBA := hide (show Below wr.heap.size wr (wr.alloc (.cells #[.int .i64 f.s, .int .i64 f.p, .int .i64 f.b, .int .i64 f.r, .int .i64 f.d, .int .i64 0] 107)).drew from (bel_one _).drew)
      have HVA := hide (fun (g5 cap5 : Nat) (w5 : World) (hown : w5.ownsRow 0 107 6 (.slice (some ⟨g5, 0, none⟩) (i + 1) cap5) (i + 1) (scells (Ln.new (l.take i)).fl ++ [.int .i64 f.s, .int .i64 f.p, .int .i64 f.b, .int .i64 f.r, .int .i64 f.d, .int .i64 0])) (hgrow : ((wr.alloc (.cells #[.int .i64 f.s, .int .i64 f.p, .int .i64 f.b, .int .i64 f.r, .int .i64 f.d, .int .i64 0] 107)).drew).grownBy w5 (Value.slice af i cf).ownBlock) (hat : (Value.slice af i cf).ownBlock = some g5 ∨ g5 = wr.heap.size + 1) => (unhide HV).flOn (w2 := w5) (st := ⟨f, 0⟩) (v' := .slice (some ⟨g5, 0, none⟩) (i + 1) cap5) (unhide HBA) (by rw [unhide HXl]; exact hown) (by rw [unhide HVf]; exact hgrow) (fun g' hg' => by
        rw [unhide HVf]
        exact hat.imp (fun e => e.trans hg') (fun e => by have e' : g5 = g' := Option.some.inj hg'; omega)))
      go_wp2_with fail
      go_region_law (refine step_append_lies _ rfl (.tmp 23) (.tmp 29) 102 rfl 0 107 i0 _ 6 48 Tryz.underlying102 (unhide HI0) (unhide HZ0) (unhide HZ1) (unhide HZ2) rfl (by omega) (.slice af i cf) i (scells (Ln.new (l.take i)).fl) (by rfl) (World.ownsRow.drew (World.ownsRow.alloc (unhide HR) _)) ⟨wr.heap.size, 0, none⟩ 1 1 [.int .i64 f.s, .int .i64 f.p, .int .i64 f.b, .int .i64 f.r, .int .i64 f.d, .int .i64 0] (by rfl) (by rfl) (World.news_of_block (cs := #[.int .i64 f.s, .int .i64 f.p, .int .i64 f.b, .int .i64 f.r, .int .i64 f.d, .int .i64 0]) (t := 107) (fr := (0, 0)) (heap_alloc_new wr _)) (by simp [Value.oneCell']) (by omega) (by unfold maxLen; omega) (by omega) (Nat.zero_le _) (wr.heap.size + 1) (by show (wr.alloc _).heap.size = _; rw [World.size_alloc]) ?_; intro g5 cap5 w5 hown hgrow hat hlt5; have hX := unhide HVA g5 cap5 w5 hown hgrow hat; have c5 := hX.1.cell (j := 1) rfl; have z5 := hX.1.frozen 1)
      all_goals
        have hgo : ∀ j, ow.give wr.heap.size w5.heap.size 2 j ≠ 0 → w.heap.size ≤ j := fun j hj => by
          rcases Nat.lt_or_ge j wr.heap.size with c | c
          · rw [give_old c] at hj; exact unhide HO j hj
          · exact Nat.le_trans (unhide HB).size c
        have hbn : Below w.heap.size w (w5.setCell ⟨w1.heap.size, 1, none⟩ (.slice (some ⟨g5, 0, none⟩) (i + 1) cap5)) := (unhide HB).trans (hX.2.2.below (unhide HB).size (fun j hj e => by have := unhide HO j e; omega))
        have HX := hide hX.2.1
        rw [← unhide HTk] at HX
        have HGo := hide hgo
        have HBn := hide hbn
        clear hX hown hgrow hat hlt5 hgo hbn
        go_wp2_with fail
        go_roundw
        case rel => exact ⟨i + 1, _, _, _, _, by go_num, by omega, unhide HX, unhide HGo, unhide HBn⟩
        case measure => simp [intOf]; omega
    · have HE := hide (show l.take i = l from List.take_of_length_le (by rw [unhide HN]; omega))
      clear hV hO hB
      go_wp2_with fail
      go_ret2
      exact ⟨_, ow, vf, vp, vb, rfl, by have := unhide HV; rwa [unhide HE] at this, unhide HO, unhide HB⟩
set_option maxRecDepth 100000 in
set_option maxHeartbeats 4000000 in
theorem rnew_nil (a : Option Addr) (c : Nat) (w : World) :
    Calls Tryz.prog 33 #[.slice a 0 c] w fun e w' => ∃ P ow vf vp vb, e = .returned (.tuple #[.pointer (some ⟨P, 0, none⟩), .int .i64 0]) ∧ RefV w' P (Ln.new []) ow vf vp vb ∧ (∀ i, ow i ≠ 0 → w.heap.size ≤ i) ∧ Below w.heap.size w w' := by
  have HA := hide (rall_nil a c w)
  go_enter Tryz.func33, Tryz.ntmps33
  go_wp2_with fail
  refine (unhide HA).mono ?_
  rintro e w1 ⟨rfl, rfl⟩
  clear HA
  have HRb := hide (ref_base w1)
  go_wp2_with fail
  go_rounds 1
  go_ret2
  refine ⟨w1.heap.size, oBase w1.heap.size, _, _, _, rfl, unhide HRb, fun j hj => ?_, bel_one _⟩
  rcases Nat.lt_or_ge j w1.heap.size with c | c
  · exfalso
    apply hj
    show (if j = w1.heap.size then 1 else 0) = 0
    rw [if_neg (by omega)]
  · exact c
theorem rnew_F (v : Value) (l : List Fl) (w : World) (hw : Fls w v l) (hl : l.length ≤ 6) (ha : allB l = true) :
    Calls Tryz.prog 33 #[v] w fun e w' => ∃ P ow vf vp vb, e = .returned (.tuple #[.pointer (some ⟨P, 0, none⟩), .int .i64 0]) ∧ RefV w' P (Ln.new l) ow vf vp vb ∧ (∀ i, ow i ≠ 0 → w.heap.size ≤ i) ∧ Below w.heap.size w w' := by
  rcases hw with ⟨rfl, a, c, rfl⟩ | ⟨b, o, c, rfl, h⟩
  · exact rnew_nil a c w
  · exact rnew_some b o c l w h hl ha
end Go.Proofs.YtcnmajndackohaaGreatDoor
/-
  What the document's Other does.
-/
namespace Go.Proofs.YtcnmajndackohaaGreatDoor
open Go.RowKit
set_option maxRecDepth 100000 in
set_option maxHeartbeats 2000000 in
theorem rother_any (w : World) (P : Nat) (x : Ln) (o : Whose) (vf vp vb : Value) (size : Int) (h : RefV w P x o vf vp vb) (hpl : x.pk.length ≤ 2000000) :
    Calls Tryz.prog 78 #[.pointer (some ⟨P, 0, none⟩), .int .i64 size] w fun e w' => e = .returned (.int .i64 (x.other size).1) ∧ RefTo w o P (x.other size).2 w' := by
  have HV := hide h
  have HSe := hide (show x.other size = if size < 1 ∨ 8 < size then (5, x) else if 40 ≤ x.waiting (-1) then (6, x) else (0, x.push (-1) size x.now) from rfl)
  by_cases hsz : size < 1 ∨ 8 < size
  · have HE := hide (show x.other size = (5, x) by rw [unhide HSe, if_pos hsz])
    generalize x.other size = sd at *
    clear h
    go_enter Tryz.func78, Tryz.ntmps78
    rcases hsz with h1 | h1
    · go_wp2_with fail
      go_ret
      refine ⟨ret_int (by rw [unhide HE]), ?_⟩
      rw [unhide HE]
      exact (unhide HV).stays (Below.refl _ _)
    · go_wp2_with fail
      go_ret
      refine ⟨ret_int (by rw [unhide HE]), ?_⟩
      rw [unhide HE]
      exact (unhide HV).stays (Below.refl _ _)
  · rw [if_neg hsz] at HSe
    have h1 : 1 ≤ size := by omega
    have h2 : size ≤ 8 := by omega
    clear hsz
    have HWt := hide (rwaiting_any w P x _ vf vp vb (-1) h (by omega))
    have HSq := hide (fun (w' : World) (hb : Below w.heap.size w w') => rseq_any w' P x _ vf vp vb (-1) (h.below hb) (by omega))
    have hwl : x.waiting (-1) ≤ 10000000 := by
      have : x.waiting (-1) ≤ x.pk.length := List.countP_le_length
      omega
    have hql : x.seqOf (-1) ≤ 10000000 := by
      have : x.seqOf (-1) ≤ x.pk.length := List.countP_le_length
      omega
    obtain ⟨ap, cp, rfl⟩ := h.pkLen
    obtain ⟨i0, hi0, hz0, hz1, hz2⟩ := info_anyR infoPk
    have HI0 := hide hi0
    have HZ0 := hide hz0
    have HZ1 := hide hz1
    have HZ2 := hide hz2
    have HPu := hide (show ∀ r, x.push (-1) size r = { x with pk := x.pk ++ [⟨-1, x.seqOf (-1), size, r, -1, false, false⟩] } from fun _ => rfl)
    clear h hi0 hz0 hz1 hz2
    generalize x.waiting (-1) = wt at *
    generalize x.seqOf (-1) = sq at *
    generalize x.other size = sd at *
    go_enter Tryz.func78, Tryz.ntmps78
    go_wp2_with fail
    refine (unhide HWt).mono ?_
    rintro e w2 ⟨rfl, hb2⟩
    have HB2 := hide hb2
    clear hb2 HWt
    by_cases hwt : 40 ≤ wt
    · have HE := hide (show sd = (6, x) by rw [unhide HSe, if_pos hwt])
      have hw1 : (40 : Int) ≤ (wt : Int) := by omega
      go_wp2_with fail
      go_ret
      refine ⟨ret_int (by rw [unhide HE]), ?_⟩
      rw [unhide HE]
      exact (unhide HV).stays (unhide HB2)
    · have HE := hide (show sd = (0, x.push (-1) size x.now) by rw [unhide HSe, if_neg hwt])
      have hw1 : (wt : Int) < 40 := by omega
      go_wp2_with fail
      refine (unhide HSq _ (unhide HB2)).mono ?_
      rintro e w4 ⟨rfl, hb4⟩
      have HB4 := hide (bel_then (unhide HB2) hb4)
      have HV4 := hide ((unhide HV).below (bel_then (unhide HB2) hb4))
      clear hb4 HSq
      have c24 := (unhide HV4).blk.cell (j := 2) rfl
      have c04 := (unhide HV4).blk.cell (j := 0) rfl
      have hP4 := (unhide HV4).blk.lt
      have c24A := (World.cell?_alloc_past (w := w4) (.cells #[.int .i64 (-1), .int .i64 (sq : Int), .int .i64 size, .int .i64 x.now, .int .i64 (-1), .bool false, .bool false] 184) P 2 hP4).trans c24
      have HBd := hide (show Below w4.heap.size w4 (w4.alloc (.cells #[.int .i64 (-1), .int .i64 (sq : Int), .int .i64 size, .int .i64 x.now, .int .i64 (-1), .bool false, .bool false] 184)).drew from (bel_one _).drew)
      go_wp2_with fail
      go_region_law (refine step_append_lies _ rfl (.tmp 23) (.tmp 31) 103 rfl 0 184 i0 _ 7 48 Tryz.underlying103 (unhide HI0) (unhide HZ0) (unhide HZ1) (unhide HZ2) rfl (by omega) (.slice ap x.pk.length cp) x.pk.length (pcells x.pk) (by rfl) (World.ownsRow.drew (World.ownsRow.alloc (unhide HV4).pk.1 _)) ⟨w4.heap.size, 0, none⟩ 1 1 [.int .i64 (-1), .int .i64 (sq : Int), .int .i64 size, .int .i64 x.now, .int .i64 (-1), .bool false, .bool false] (by rfl) (by rfl) (World.news_of_block (cs := #[.int .i64 (-1), .int .i64 (sq : Int), .int .i64 size, .int .i64 x.now, .int .i64 (-1), .bool false, .bool false]) (t := 184) (fr := (0, 0)) (heap_alloc_new w4 _)) (by simp [Value.oneCell']) (by omega) (by unfold maxLen; omega) (by omega) (Nat.zero_le _) (w4.heap.size + 1) (World.size_alloc _ _) ?_; intro g5 cap5 w5 hown5 hgrow5 hat5 hlt5; have hX := (unhide HV4).pkOn (p := ⟨-1, sq, size, x.now, -1, false, false⟩) (unhide HBd) hown5 hgrow5 (fun g' hg' => hat5.imp (fun e => e.trans hg') (fun e => by have e' : g5 = g' := Option.some.inj hg'; omega)); have c5 := hX.1.cell (j := 2) rfl; have z5 := hX.1.frozen 2)
      all_goals
        have HX := hide hX.2
        clear hX hown5 hgrow5 hat5 hlt5
        go_wp2_with fail
        go_ret
        refine ⟨ret_int (by rw [unhide HE]), ?_⟩
        rw [unhide HE, unhide HPu]
        exact RefTo.next (unhide HB4) (unhide HX).1 (unhide HX).2
end Go.Proofs.YtcnmajndackohaaGreatDoor
