import Derived.Test.YtcnmajndackohaaGreatDoorMg48
import Derived.Test.YtcnmajndackohaaGreatDoorMg44
import Derived.Test.YtcnmajndackohaaGreatDoorMg27
import Derived.Test.YtcnmajndackohaaGreatDoorMg26
import Derived.Test.YtcnmajndackohaaGreatDoorMg36
/-
  What the law's calls does: the program's answer is the document's.
-/
namespace Go.Proofs.YtcnmajndackohaaGreatDoor
open Go.RowKit
attribute [local go_sem ↓] Go.wp_at_zero Go.wp_at_succ
/-- Numbers of 64 bits. -/
structure Opd.raw (q : Opd) : Prop where
  a0 : -9223372036854775808 ≤ q.a
  a1 : q.a ≤ 9223372036854775807
  b0 : -9223372036854775808 ≤ q.b
  b1 : q.b ≤ 9223372036854775807
  w0 : -9223372036854775808 ≤ q.which
  w1 : q.which ≤ 9223372036854775807
theorem eq_self (z : Int) : (z == z) = true := by simp
set_option maxRecDepth 100000 in
set_option maxHeartbeats 4000000 in
theorem call_send {W w : World} {B : Nat} {vv : Value × Value} {L0 : List Lse} {ps qs : List Nat} {xs : List Ln} {k P Q n : Nat} {x : Ln} {gl : List Value} {gm : List Int} {il : List Value} {im : List Int} {a : Nat → Addr} {a0 a1 : Addr} (hg : GlA W a a0 a1) (h : Wk W w B vv ps qs xs k P Q x x gl gm il im L0) (hs : Stn x n) (hn : n ≤ 1100000) (q : Opd) (hq : q.raw) (hk : q.kind = 4) :
    Calls Tryz.prog 52 #[.pointer (some ⟨B, 0, none⟩), .pointer (some ⟨P, 0, none⟩), .pointer (some ⟨Q, 0, none⟩), .agg q.cells.toArray] w fun e w' => e = .returned (.bool true) ∧ Wk W w' B vv ps qs xs k P Q (x.send q.a q.b).2 (x.send q.a q.b).2 gl gm il im L0 := by
  obtain ⟨kd, qa, qb, wh, f, lv, l⟩ := q
  have hk' : kd = 4 := hk
  subst hk'
  obtain ⟨r0, r1, r2, r3, r4, r5⟩ := hq
  have r0' : -9223372036854775808 ≤ qa := r0
  have r1' : qa ≤ 9223372036854775807 := r1
  have r2' : -9223372036854775808 ≤ qb := r2
  have r3' : qb ≤ 9223372036854775807 := r3
  have hW0 := h.hold hg 71 (Opd.cells ⟨4, qa, qb, wh, f, lv, l⟩).toArray
  obtain ⟨F, hR, hnx⟩ := hW0.prog hg
  have HP := hide ((lineL hg).send _ P x F n qa qb hW0.bel hR hs.sml (by omega) r0' r1' r2' r3')
  have HNx := hide hnx
  have HG := hide hg
  have HSt := hide hs
  clear h hR hnx hs hk hW0 hg r0 r1 r2 r3 r4 r5
  unfold Opd.cells at *
  go_enter Tryz.func52, Tryz.ntmps52
  go_wp2_with fail
  refine (unhide HP).mono ?_
  rintro e w1 ⟨rfl, F', hR', hO, hF'⟩
  have hW1 := unhide HNx w1 (x.send qa qb).2 F' [] hR' hO hF' (fun r hr => by cases hr)
  have y1 : w1.cell? ⟨w.heap.size, 1, none⟩ = some (.int .i64 qa) := own_cell (hW1.row (List.mem_cons_self ..)) (show (Opd.cells ⟨4, qa, qb, wh, f, lv, l⟩).toArray.toList[1]? = some _ from rfl)
  have y2 : w1.cell? ⟨w.heap.size, 2, none⟩ = some (.int .i64 qb) := own_cell (hW1.row (List.mem_cons_self ..)) (show (Opd.cells ⟨4, qa, qb, wh, f, lv, l⟩).toArray.toList[2]? = some _ from rfl)
  obtain ⟨o1, vf, vp, vb, hV, hnx2⟩ := hW1.doc (unhide HG)
  have HD := hide (rsend_any w1 Q x o1 vf vp vb n qa qb hV (unhide HSt).lnv (fun p hp => ((unhide HSt).flw p hp).2) (unhide HSt).sml (by omega) (by have := (unhide HSt).fl; omega))
  have HNx2 := hide hnx2
  clear HP HNx hR' hO hF' hW1 hV hnx2
  go_wp2_with fail
  refine (unhide HD).mono ?_
  rintro e w2 ⟨rfl, hto⟩
  have HW2 := hide ((unhide HNx2 w2 (x.send qa qb).2 hto).sub (L' := L0) (fun r hr => List.mem_cons_of_mem _ hr))
  clear HD HNx2 hto
  generalize (x.send qa qb).1 = R at *
  have eR := eq_self R
  go_wp2_with fail
  refine (num_any R _).mono ?_
  rintro e w3 ⟨rfl, rfl⟩
  go_wp2_with fail
  go_ret
  exact ⟨rfl, unhide HW2⟩
set_option maxRecDepth 100000 in
set_option maxHeartbeats 4000000 in
theorem call_other {W w : World} {B : Nat} {vv : Value × Value} {L0 : List Lse} {ps qs : List Nat} {xs : List Ln} {k P Q n : Nat} {x : Ln} {gl : List Value} {gm : List Int} {il : List Value} {im : List Int} {a : Nat → Addr} {a0 a1 : Addr} (hg : GlA W a a0 a1) (h : Wk W w B vv ps qs xs k P Q x x gl gm il im L0) (hs : Stn x n) (hn : n ≤ 1100000) (q : Opd) (hq : q.raw) (hk : q.kind = 5) :
    Calls Tryz.prog 52 #[.pointer (some ⟨B, 0, none⟩), .pointer (some ⟨P, 0, none⟩), .pointer (some ⟨Q, 0, none⟩), .agg q.cells.toArray] w fun e w' => e = .returned (.bool true) ∧ Wk W w' B vv ps qs xs k P Q (x.other q.a).2 (x.other q.a).2 gl gm il im L0 := by
  obtain ⟨kd, qa, qb, wh, f, lv, l⟩ := q
  have hk' : kd = 5 := hk
  subst hk'
  obtain ⟨r0, r1, r2, r3, r4, r5⟩ := hq
  have r0' : -9223372036854775808 ≤ qa := r0
  have r1' : qa ≤ 9223372036854775807 := r1
  have hW0 := h.hold hg 71 (Opd.cells ⟨5, qa, qb, wh, f, lv, l⟩).toArray
  obtain ⟨F, hR, hnx⟩ := hW0.prog hg
  have HP := hide ((lineL hg).other _ P x F n qa hW0.bel hR hs.sml (by omega) r0' r1')
  have HNx := hide hnx
  have HG := hide hg
  have HSt := hide hs
  clear h hR hnx hs hk hW0 hg r0 r1 r2 r3 r4 r5
  unfold Opd.cells at *
  go_enter Tryz.func52, Tryz.ntmps52
  go_wp2_with fail
  refine (unhide HP).mono ?_
  rintro e w1 ⟨rfl, F', hR', hO, hF'⟩
  have hW1 := unhide HNx w1 (x.other qa).2 F' [] hR' hO hF' (fun r hr => by cases hr)
  have y1 : w1.cell? ⟨w.heap.size, 1, none⟩ = some (.int .i64 qa) := own_cell (hW1.row (List.mem_cons_self ..)) (show (Opd.cells ⟨5, qa, qb, wh, f, lv, l⟩).toArray.toList[1]? = some _ from rfl)
  obtain ⟨o1, vf, vp, vb, hV, hnx2⟩ := hW1.doc (unhide HG)
  have HD := hide (rother_any w1 Q x o1 vf vp vb qa hV (by have := (unhide HSt).sml.pk; omega))
  have HNx2 := hide hnx2
  clear HP HNx hR' hO hF' hW1 hV hnx2
  go_wp2_with fail
  refine (unhide HD).mono ?_
  rintro e w2 ⟨rfl, hto⟩
  have HW2 := hide ((unhide HNx2 w2 (x.other qa).2 hto).sub (L' := L0) (fun r hr => List.mem_cons_of_mem _ hr))
  clear HD HNx2 hto
  generalize (x.other qa).1 = R at *
  have eR := eq_self R
  go_wp2_with fail
  refine (num_any R _).mono ?_
  rintro e w3 ⟨rfl, rfl⟩
  go_wp2_with fail
  go_ret
  exact ⟨rfl, unhide HW2⟩
set_option maxRecDepth 100000 in
set_option maxHeartbeats 4000000 in
theorem call_run {W w : World} {B : Nat} {vv : Value × Value} {L0 : List Lse} {ps qs : List Nat} {xs : List Ln} {k P Q n : Nat} {x : Ln} {gl : List Value} {gm : List Int} {il : List Value} {im : List Int} {a : Nat → Addr} {a0 a1 : Addr} (hg : GlA W a a0 a1) (h : Wk W w B vv ps qs xs k P Q x x gl gm il im L0) (hs : Stn x n) (hn : n ≤ 1100000) (q : Opd) (hq : q.raw) (hk : q.kind = 6) :
    Calls Tryz.prog 52 #[.pointer (some ⟨B, 0, none⟩), .pointer (some ⟨P, 0, none⟩), .pointer (some ⟨Q, 0, none⟩), .agg q.cells.toArray] w fun e w' => e = .returned (.bool true) ∧ Wk W w' B vv ps qs xs k P Q (x.run q.a).2 (x.run q.a).2 gl gm il im L0 := by
  obtain ⟨kd, qa, qb, wh, f, lv, l⟩ := q
  have hk' : kd = 6 := hk
  subst hk'
  obtain ⟨r0, r1, r2, r3, r4, r5⟩ := hq
  have r0' : -9223372036854775808 ≤ qa := r0
  have r1' : qa ≤ 9223372036854775807 := r1
  have hW0 := h.hold hg 71 (Opd.cells ⟨6, qa, qb, wh, f, lv, l⟩).toArray
  obtain ⟨F, hR, hnx⟩ := hW0.prog hg
  have HP := hide ((lineL hg).run _ P x F n qa hW0.bel hR hs.sml (by omega) r0' r1')
  have HNx := hide hnx
  have HG := hide hg
  have HSt := hide hs
  clear h hR hnx hs hk hW0 hg r0 r1 r2 r3 r4 r5
  unfold Opd.cells at *
  go_enter Tryz.func52, Tryz.ntmps52
  go_wp2_with fail
  refine (unhide HP).mono ?_
  rintro e w1 ⟨rfl, F', hR', hO, hF'⟩
  have hW1 := unhide HNx w1 (x.run qa).2 F' [] hR' hO hF' (fun r hr => by cases hr)
  have y1 : w1.cell? ⟨w.heap.size, 1, none⟩ = some (.int .i64 qa) := own_cell (hW1.row (List.mem_cons_self ..)) (show (Opd.cells ⟨6, qa, qb, wh, f, lv, l⟩).toArray.toList[1]? = some _ from rfl)
  obtain ⟨o1, vf, vp, vb, hV, hnx2⟩ := hW1.doc (unhide HG)
  have HD := hide (rrun_any w1 Q x o1 vf vp vb n qa hV (unhide HSt).lnv (unhide HSt).sml (by omega) (by have := (unhide HSt).bg; omega) (by have := (unhide HSt).fl; omega))
  have HNx2 := hide hnx2
  clear HP HNx hR' hO hF' hW1 hV hnx2
  go_wp2_with fail
  refine (unhide HD).mono ?_
  rintro e w2 ⟨rfl, hto⟩
  have HW2 := hide ((unhide HNx2 w2 (x.run qa).2 hto).sub (L' := L0) (fun r hr => List.mem_cons_of_mem _ hr))
  clear HD HNx2 hto
  generalize (x.run qa).1 = R at *
  have eR := eq_self R
  go_wp2_with fail
  refine (num_any R _).mono ?_
  rintro e w3 ⟨rfl, rfl⟩
  go_wp2_with fail
  go_ret
  exact ⟨rfl, unhide HW2⟩
set_option maxRecDepth 100000 in
set_option maxHeartbeats 4000000 in
theorem call_teardown {W w : World} {B : Nat} {vv : Value × Value} {L0 : List Lse} {ps qs : List Nat} {xs : List Ln} {k P Q n : Nat} {x : Ln} {gl : List Value} {gm : List Int} {il : List Value} {im : List Int} {a : Nat → Addr} {a0 a1 : Addr} (hg : GlA W a a0 a1) (h : Wk W w B vv ps qs xs k P Q x x gl gm il im L0) (hs : Stn x n) (hn : n ≤ 1100000) (q : Opd) (hq : q.raw) (hk : q.kind = 10) :
    Calls Tryz.prog 52 #[.pointer (some ⟨B, 0, none⟩), .pointer (some ⟨P, 0, none⟩), .pointer (some ⟨Q, 0, none⟩), .agg q.cells.toArray] w fun e w' => e = .returned (.bool true) ∧ Wk W w' B vv ps qs xs k P Q (x.teardown q.a).2 (x.teardown q.a).2 gl gm il im L0 := by
  obtain ⟨kd, qa, qb, wh, f, lv, l⟩ := q
  have hk' : kd = 10 := hk
  subst hk'
  obtain ⟨r0, r1, r2, r3, r4, r5⟩ := hq
  have r0' : -9223372036854775808 ≤ qa := r0
  have r1' : qa ≤ 9223372036854775807 := r1
  have hW0 := h.hold hg 71 (Opd.cells ⟨10, qa, qb, wh, f, lv, l⟩).toArray
  obtain ⟨F, hR, hnx⟩ := hW0.prog hg
  have HP := hide ((lineL hg).teardown _ P x F n qa hW0.bel hR hs.sml (by omega) r0' r1')
  have HNx := hide hnx
  have HG := hide hg
  have HSt := hide hs
  clear h hR hnx hs hk hW0 hg r0 r1 r2 r3 r4 r5
  unfold Opd.cells at *
  go_enter Tryz.func52, Tryz.ntmps52
  go_wp2_with fail
  refine (unhide HP).mono ?_
  rintro e w1 ⟨rfl, F', hR', hO, hF'⟩
  have hW1 := unhide HNx w1 (x.teardown qa).2 F' [] hR' hO hF' (fun r hr => by cases hr)
  have y1 : w1.cell? ⟨w.heap.size, 1, none⟩ = some (.int .i64 qa) := own_cell (hW1.row (List.mem_cons_self ..)) (show (Opd.cells ⟨10, qa, qb, wh, f, lv, l⟩).toArray.toList[1]? = some _ from rfl)
  obtain ⟨o1, vf, vp, vb, hV, hnx2⟩ := hW1.doc (unhide HG)
  have HD := hide (rtear_any w1 Q x o1 vf vp vb qa hV ((unhide HSt).lbd (by omega)))
  have HNx2 := hide hnx2
  clear HP HNx hR' hO hF' hW1 hV hnx2
  go_wp2_with fail
  refine (unhide HD).mono ?_
  rintro e w2 ⟨rfl, hto⟩
  have HW2 := hide ((unhide HNx2 w2 (x.teardown qa).2 hto).sub (L' := L0) (fun r hr => List.mem_cons_of_mem _ hr))
  clear HD HNx2 hto
  generalize (x.teardown qa).1 = R at *
  have eR := eq_self R
  go_wp2_with fail
  refine (num_any R _).mono ?_
  rintro e w3 ⟨rfl, rfl⟩
  go_wp2_with fail
  go_ret
  exact ⟨rfl, unhide HW2⟩
set_option maxRecDepth 100000 in
set_option maxHeartbeats 4000000 in
theorem call_setup {W w : World} {B : Nat} {vv : Value × Value} {L0 : List Lse} {ps qs : List Nat} {xs : List Ln} {k P Q n : Nat} {x : Ln} {gl : List Value} {gm : List Int} {il : List Value} {im : List Int} {a : Nat → Addr} {a0 a1 : Addr} (hg : GlA W a a0 a1) (h : Wk W w B vv ps qs xs k P Q x x gl gm il im L0) (hs : Stn x n) (hn : n ≤ 1100000) (q : Opd) (hk : q.kind = 9) :
    Calls Tryz.prog 52 #[.pointer (some ⟨B, 0, none⟩), .pointer (some ⟨P, 0, none⟩), .pointer (some ⟨Q, 0, none⟩), .agg q.cells.toArray] w fun e w' => e = .returned (.bool true) ∧ Wk W w' B vv ps qs xs k P Q (x.setup q.f).2 (x.setup q.f).2 gl gm il im L0 := by
  obtain ⟨kd, qa, qb, wh, f, lv, l⟩ := q
  have hk' : kd = 9 := hk
  subst hk'
  have hW0 := h.hold hg 71 (Opd.cells ⟨9, qa, qb, wh, f, lv, l⟩).toArray
  obtain ⟨F, hR, hnx⟩ := hW0.prog hg
  have HP := hide ((lineL hg).setup _ P x F n f hW0.bel hR hs.sml (by omega) (by have := hs.fl; omega))
  have HNx := hide hnx
  have HG := hide hg
  have HSt := hide hs
  clear h hR hnx hs hk hW0 hg
  unfold Opd.cells at *
  go_enter Tryz.func52, Tryz.ntmps52
  go_wp2_with fail
  refine (unhide HP).mono ?_
  rintro e w1 ⟨rfl, F', hR', hO, hF'⟩
  have hW1 := unhide HNx w1 (x.setup f).2 F' [] hR' hO hF' (fun r hr => by cases hr)
  have y4 : w1.cell? ⟨w.heap.size, 4, none⟩ = some (.int .i64 f.s) := own_cell (hW1.row (List.mem_cons_self ..)) (show (Opd.cells ⟨9, qa, qb, wh, f, lv, l⟩).toArray.toList[4]? = some _ from rfl)
  have y5 : w1.cell? ⟨w.heap.size, 5, none⟩ = some (.int .i64 f.p) := own_cell (hW1.row (List.mem_cons_self ..)) (show (Opd.cells ⟨9, qa, qb, wh, f, lv, l⟩).toArray.toList[5]? = some _ from rfl)
  have y6 : w1.cell? ⟨w.heap.size, 6, none⟩ = some (.int .i64 f.b) := own_cell (hW1.row (List.mem_cons_self ..)) (show (Opd.cells ⟨9, qa, qb, wh, f, lv, l⟩).toArray.toList[6]? = some _ from rfl)
  have y7 : w1.cell? ⟨w.heap.size, 7, none⟩ = some (.int .i64 f.r) := own_cell (hW1.row (List.mem_cons_self ..)) (show (Opd.cells ⟨9, qa, qb, wh, f, lv, l⟩).toArray.toList[7]? = some _ from rfl)
  have y8 : w1.cell? ⟨w.heap.size, 8, none⟩ = some (.int .i64 f.d) := own_cell (hW1.row (List.mem_cons_self ..)) (show (Opd.cells ⟨9, qa, qb, wh, f, lv, l⟩).toArray.toList[8]? = some _ from rfl)
  obtain ⟨o1, vf, vp, vb, hV, hnx2⟩ := hW1.doc (unhide HG)
  have HD := hide (rsetup_any w1 Q x o1 vf vp vb f hV (unhide HSt).lnv (by have := (unhide HSt).fl; omega))
  have HNx2 := hide hnx2
  clear HP HNx hR' hO hF' hW1 hV hnx2
  go_wp2_with fail
  refine (unhide HD).mono ?_
  rintro e w2 ⟨rfl, hto⟩
  have HW2 := hide ((unhide HNx2 w2 (x.setup f).2 hto).sub (L' := L0) (fun r hr => List.mem_cons_of_mem _ hr))
  clear HD HNx2 hto
  generalize (x.setup f).1.1 = R1 at *
  generalize (x.setup f).1.2.1 = R2 at *
  generalize (x.setup f).1.2.2 = R at *
  have eR := eq_self R
  have eR1 := eq_self R1
  have eR2 := eq_self R2
  go_wp2_with fail
  refine (num_any R _).mono ?_
  rintro e w3 ⟨rfl, rfl⟩
  go_wp2_with fail
  go_ret
  exact ⟨rfl, unhide HW2⟩
set_option maxRecDepth 100000 in
set_option maxHeartbeats 4000000 in
theorem call_gone {W w : World} {B : Nat} {vv : Value × Value} {L0 : List Lse} {ps qs : List Nat} {xs : List Ln} {k P Q n : Nat} {x : Ln} {gl : List Value} {gm : List Int} {il : List Value} {im : List Int} {a : Nat → Addr} {a0 a1 : Addr} (hg : GlA W a a0 a1) (h : Wk W w B vv ps qs xs k P Q x x gl gm il im L0) (hs : Stn x n) (hn : n ≤ 1100000) (q : Opd) (hlg : gl.length = gm.length) (hli : il.length = im.length) (hg9 : gl.length ≤ 1000000000) (hk : q.kind = 7) :
    Calls Tryz.prog 52 #[.pointer (some ⟨B, 0, none⟩), .pointer (some ⟨P, 0, none⟩), .pointer (some ⟨Q, 0, none⟩), .agg q.cells.toArray] w fun e w' => e = .returned (.bool true) ∧ ∃ gl' gm', Wk W w' B vv ps qs xs k P Q x.gone.2 x.gone.2 gl' gm' il im L0 ∧ gl'.length = gl.length + 4 ∧ gm'.length = gl.length + 4 := by
  obtain ⟨kd, qa, qb, wh, f, lv, l⟩ := q
  have hk' : kd = 7 := hk
  subst hk'
  have HP := hide (fun (ob : Obj) => lgone_any hg (h.below hg (bel_one ob)) hs hn hlg hli hg9)
  clear h hs hk hg hlg hli hg9
  unfold Opd.cells at *
  go_enter Tryz.func52, Tryz.ntmps52
  go_wp2_with fail
  refine (unhide HP _).mono ?_
  rintro e w1 ⟨rfl, hr⟩
  have HR := hide hr
  clear hr HP
  go_wp2_with fail
  go_ret
  exact ⟨rfl, unhide HR⟩
set_option maxRecDepth 100000 in
set_option maxHeartbeats 4000000 in
theorem call_look {W w : World} {B : Nat} {vv : Value × Value} {L0 : List Lse} {ps qs : List Nat} {xs : List Ln} {k P Q n : Nat} {x : Ln} {gl : List Value} {gm : List Int} {il : List Value} {im : List Int} {a : Nat → Addr} {a0 a1 : Addr} (hg : GlA W a a0 a1) (h : Wk W w B vv ps qs xs k P Q x x gl gm il im L0) (hs : Stn x n) (hn : n ≤ 1100000) (q : Opd) (hlg : gl.length = gm.length) (hli : il.length = im.length) (hg9 : il.length ≤ 900000000) (hk : q.kind = 8) :
    Calls Tryz.prog 52 #[.pointer (some ⟨B, 0, none⟩), .pointer (some ⟨P, 0, none⟩), .pointer (some ⟨Q, 0, none⟩), .agg q.cells.toArray] w fun e w' => e = .returned (.bool true) ∧ ∃ il' im', Wk W w' B vv ps qs xs k P Q x x gl gm il' im' L0 ∧ il'.length = il.length + 8 ∧ im'.length = il.length + 8 := by
  obtain ⟨kd, qa, qb, wh, f, lv, l⟩ := q
  have hk' : kd = 8 := hk
  subst hk'
  have HP := hide (fun (ob : Obj) => llook_any hg (h.below hg (bel_one ob)) hs hn hlg hli hg9)
  clear h hs hk hg hlg hli hg9
  unfold Opd.cells at *
  go_enter Tryz.func52, Tryz.ntmps52
  go_wp2_with fail
  refine (unhide HP _).mono ?_
  rintro e w1 ⟨rfl, hr⟩
  have HR := hide hr
  clear hr HP
  go_wp2_with fail
  go_ret
  exact ⟨rfl, unhide HR⟩
end Go.Proofs.YtcnmajndackohaaGreatDoor
