import Derived.Test.YtcnmajndackohaaGreatDoorMg45
import Derived.Test.YtcnmajndackohaaGreatDoorMg46
/-
  What the law's looks does: the program's Look tells what the document's tells.
-/
namespace Go.Proofs.YtcnmajndackohaaGreatDoor
open Go.RowKit
attribute [local go_sem ↓] Go.wp_at_zero Go.wp_at_succ
set_option maxRecDepth 100000 in
set_option maxHeartbeats 4000000 in
theorem llook_any {W w : World} {B : Nat} {vv : Value × Value} {L0 : List Lse} {ps qs : List Nat} {xs : List Ln} {k P Q n : Nat} {x : Ln} {gl : List Value} {gm : List Int} {il : List Value} {im : List Int} {a : Nat → Addr} {a0 a1 : Addr} (hg : GlA W a a0 a1) (h : Wk W w B vv ps qs xs k P Q x x gl gm il im L0) (hs : Stn x n) (hn : n ≤ 1100000) (hlg : gl.length = gm.length) (hli : il.length = im.length) (hi9 : il.length ≤ 900000000) :
    Calls Tryz.prog 81 #[.pointer (some ⟨B, 0, none⟩), .pointer (some ⟨P, 0, none⟩), .pointer (some ⟨Q, 0, none⟩)] w fun e w' => e = .returned (.bool true) ∧ ∃ il' im', Wk W w' B vv ps qs xs k P Q x x gl gm il' im' L0 ∧ il'.length = il.length + 8 ∧ im'.length = il.length + 8 := by
  have hbel := h.bel
  have HOl := hide (fun (r' : Lse) (hr' : r' ∈ L0) (g : Nat) (hg' : r'.v.ownBlock = some g) => (ownsRow_lt (h.row hr') g hg').2)
  obtain ⟨F, hR, hnx⟩ := h.prog hg
  have HP := hide ((lineL hg).looks w P x F n hbel hR hs.sml (by omega))
  have HNx := hide (fun (w1 : World) (hb : Below w.heap.size w w1) (L' : List Lse) (hL : ∀ r ∈ L', w1.ownsRow w.heap.size r.t r.size r.v r.n r.cs) => hnx w1 x F L' (hR.stay hb) (Only.of_below hb) (fun i hi => .inl hi) (fun r hr => ⟨hL r hr, fun g hg' hF => by have h1 := (linr_lt hg hR g hF).2; have h2 := (ownsRow_lt (hL r hr) g hg').1; omega⟩))
  have HG := hide hg
  have HL := hide (hs.lbd (by omega))
  have HLv := hide hs.lnv
  have hfl := hs.fl
  have HFl := hide (show x.fl.length ≤ 1500000 from by omega)
  have HI0 := hide (show ∀ is, (nats (x.ids is)).length ≤ 1000000000 from fun is => by have h1 := ids_len x is; rw [nats_len]; omega)
  have HLg := hide hlg
  have HLi := hide hli
  have HI9 := hide hi9
  clear hbel hR hnx hs hn hlg hli hi9 h hg hfl
  go_enter Tryz.func81, Tryz.ntmps81
  go_wp2_with fail
  refine (unhide HP).mono ?_
  rintro e w1 ⟨vl, vs, rfl, hl, hst, hne, hb⟩
  have hW1 := unhide HNx w1 hb [⟨3, 1, vl, (x.ids 0).length, icells (nats (x.ids 0))⟩, ⟨3, 1, vs, (x.ids 1).length, icells (nats (x.ids 1))⟩] (fun r hr => by
    rcases List.mem_cons.1 hr with e | hr
    · rw [e]; exact hl
    · rw [List.mem_singleton.1 hr]; exact hst)
  obtain ⟨al, cl, hal⟩ := row_lenW hl
  obtain ⟨sa, sc, has⟩ := row_lenW hst
  have hvl : ∀ g, vl.ownBlock = some g → g < w1.heap.size := fun g hg => (ownsRow_lt hl g hg).2
  have hvs : ∀ g, vs.ownBlock = some g → g < w1.heap.size := fun g hg => (ownsRow_lt hst g hg).2
  subst hal
  subst has
  have hW2 := hW1.hold (unhide HG) 84 #[.int .i64 x.now, .slice al (x.ids 0).length cl, .slice sa (x.ids 1).length sc, .int .i64 (x.waits : Int), .int .i64 (x.waiting (-1) : Int), .bool x.busy]
  have HW2 := hide hW2
  have HNe := hide hne
  have HGe0 := hide (fun (g : Nat) (hg' : (Value.slice al (x.ids 0).length cl).ownBlock = some g) => (ownsRow_lt hl g hg').1)
  have HGe1 := hide (fun (g : Nat) (hg' : (Value.slice sa (x.ids 1).length sc).ownBlock = some g) => (ownsRow_lt hst g hg').1)
  have HVl := hide hvl
  have HVs := hide hvs
  obtain ⟨o1, vf, vp, vb, hV, -⟩ := hW2.doc (unhide HG)
  have HD := hide (rlook_any _ Q x o1 vf vp vb hV (unhide HL) (unhide HLv) (unhide HFl))
  clear HP HNx hl hst hne hb hW1 hW2 hV hvl hvs
  go_wp2_with fail
  refine (unhide HD).mono ?_
  rintro e w3 ⟨u1, u2, rfl, hl3, hs3, hb3⟩
  obtain ⟨ul, uc, rfl⟩ := row_lenW hl3
  obtain ⟨us, ud, rfl⟩ := row_lenW hs3
  have hW4 := ((unhide HW2).below (unhide HG) hb3).below (unhide HG) (bel_one (.cells #[.int .i64 x.now, .slice ul (x.ids 0).length uc, .slice us (x.ids 1).length ud, .int .i64 (x.waits : Int), .int .i64 (x.waiting (-1) : Int), .bool x.busy] 84))
  have hA := hW4.row (List.mem_cons_self ..)
  have hB0 := hW4.row (List.mem_cons_of_mem _ (List.mem_cons_self ..))
  have hB1 := hW4.row (List.mem_cons_of_mem _ (List.mem_cons_of_mem _ (List.mem_cons_self ..)))
  have HS0 := hide (same_any _ _ _ _ _ (nats (x.ids 0)) (by rw [nats_len]; exact hB0) (by rw [nats_len]; exact hl3.alloc (.cells #[.int .i64 x.now, .slice ul (x.ids 0).length uc, .slice us (x.ids 1).length ud, .int .i64 (x.waits : Int), .int .i64 (x.waiting (-1) : Int), .bool x.busy] 84)))
  have HS1 := hide (fun (W' : World) (hb : Below (w3.alloc (.cells #[.int .i64 x.now, .slice ul (x.ids 0).length uc, .slice us (x.ids 1).length ud, .int .i64 (x.waits : Int), .int .i64 (x.waiting (-1) : Int), .bool x.busy] 84)).heap.size (w3.alloc (.cells #[.int .i64 x.now, .slice ul (x.ids 0).length uc, .slice us (x.ids 1).length ud, .int .i64 (x.waits : Int), .int .i64 (x.waiting (-1) : Int), .bool x.busy] 84)) W') => same_any W' _ _ _ _ (nats (x.ids 1)) (by rw [nats_len]; exact ownsRow_only hB1 (Only.of_below (S := fun _ => False) hb) (fun _ _ c => c)) (by rw [nats_len]; exact ownsRow_only (hs3.alloc (.cells #[.int .i64 x.now, .slice ul (x.ids 0).length uc, .slice us (x.ids 1).length ud, .int .i64 (x.waits : Int), .int .i64 (x.waiting (-1) : Int), .bool x.busy] 84)) (Only.of_below (S := fun _ => False) hb) (fun _ _ c => c)))
  have HCa := hide (fun (W' : World) (hb : Below (w3.alloc (.cells #[.int .i64 x.now, .slice ul (x.ids 0).length uc, .slice us (x.ids 1).length ud, .int .i64 (x.waits : Int), .int .i64 (x.waiting (-1) : Int), .bool x.busy] 84)).heap.size (w3.alloc (.cells #[.int .i64 x.now, .slice ul (x.ids 0).length uc, .slice us (x.ids 1).length ud, .int .i64 (x.waits : Int), .int .i64 (x.waiting (-1) : Int), .bool x.busy] 84)) W') (j : Nat) (u : Value) (hu : (#[.int .i64 x.now, .slice al (x.ids 0).length cl, .slice sa (x.ids 1).length sc, .int .i64 (x.waits : Int), .int .i64 (x.waiting (-1) : Int), .bool x.busy] : Array Value).toList[j]? = some u) => own_cell (ownsRow_only hA (Only.of_below (S := fun _ => False) hb) (fun _ _ c => c)) hu)
  have HCb := hide (fun (W' : World) (hb : Below (w3.alloc (.cells #[.int .i64 x.now, .slice ul (x.ids 0).length uc, .slice us (x.ids 1).length ud, .int .i64 (x.waits : Int), .int .i64 (x.waiting (-1) : Int), .bool x.busy] 84)).heap.size (w3.alloc (.cells #[.int .i64 x.now, .slice ul (x.ids 0).length uc, .slice us (x.ids 1).length ud, .int .i64 (x.waits : Int), .int .i64 (x.waiting (-1) : Int), .bool x.busy] 84)) W') => (Is.new w3 84 #[.int .i64 x.now, .slice ul (x.ids 0).length uc, .slice us (x.ids 1).length ud, .int .i64 (x.waits : Int), .int .i64 (x.waiting (-1) : Int), .bool x.busy]).below hb)
  have HW4 := hide hW4
  have hX1 : w1.heap.size < w3.heap.size := by have := hb3.size; rw [World.size_alloc] at this; omega
  clear HD hl3 hs3 hb3 hW4 hA hB0 hB1 HW2
  have y1 : (w3.alloc (.cells #[.int .i64 x.now, .slice ul (x.ids 0).length uc, .slice us (x.ids 1).length ud, .int .i64 (x.waits : Int), .int .i64 (x.waiting (-1) : Int), .bool x.busy] 84)).cell? ⟨w1.heap.size, 1, none⟩ = some (.slice al (x.ids 0).length cl) := unhide HCa _ (Below.refl _ _) 1 _ rfl
  have z1 : (w3.alloc (.cells #[.int .i64 x.now, .slice ul (x.ids 0).length uc, .slice us (x.ids 1).length ud, .int .i64 (x.waits : Int), .int .i64 (x.waiting (-1) : Int), .bool x.busy] 84)).cell? ⟨w3.heap.size, 1, none⟩ = some (.slice ul (x.ids 0).length uc) := (unhide HCb _ (Below.refl _ _)).cell (j := 1) rfl
  go_wp2_with fail
  refine (unhide HS0).mono ?_
  rintro e w5 ⟨rfl, hb5⟩
  have HB5 := hide hb5
  have y2 : w5.cell? ⟨w1.heap.size, 2, none⟩ = some (.slice sa (x.ids 1).length sc) := unhide HCa _ hb5 2 _ rfl
  have z2 : w5.cell? ⟨w3.heap.size, 2, none⟩ = some (.slice us (x.ids 1).length ud) := (unhide HCb _ hb5).cell (j := 2) rfl
  clear hb5 y1 z1 HS0
  go_wp2_with fail
  refine (unhide HS1 _ (unhide HB5)).mono ?_
  rintro e w6 ⟨rfl, hb6⟩
  have hb46 := bel_then (unhide HB5) hb6
  have f0 : w6.cell? ⟨w1.heap.size, 0, none⟩ = some (.int .i64 x.now) := unhide HCa _ hb46 0 _ rfl
  have f1 : w6.cell? ⟨w1.heap.size, 1, none⟩ = some (.slice al (x.ids 0).length cl) := unhide HCa _ hb46 1 _ rfl
  have f3 : w6.cell? ⟨w1.heap.size, 3, none⟩ = some (.int .i64 (x.waits : Int)) := unhide HCa _ hb46 3 _ rfl
  have f4 : w6.cell? ⟨w1.heap.size, 4, none⟩ = some (.int .i64 (x.waiting (-1) : Int)) := unhide HCa _ hb46 4 _ rfl
  have f5 : w6.cell? ⟨w1.heap.size, 5, none⟩ = some (.bool x.busy) := unhide HCa _ hb46 5 _ rfl
  have g0 : w6.cell? ⟨w3.heap.size, 0, none⟩ = some (.int .i64 x.now) := (unhide HCb _ hb46).cell (j := 0) rfl
  have g3 : w6.cell? ⟨w3.heap.size, 3, none⟩ = some (.int .i64 (x.waits : Int)) := (unhide HCb _ hb46).cell (j := 3) rfl
  have g4 : w6.cell? ⟨w3.heap.size, 4, none⟩ = some (.int .i64 (x.waiting (-1) : Int)) := (unhide HCb _ hb46).cell (j := 4) rfl
  have g5 : w6.cell? ⟨w3.heap.size, 5, none⟩ = some (.bool x.busy) := (unhide HCb _ hb46).cell (j := 5) rfl
  have hW6 := (unhide HW4).below (unhide HG) hb46
  have hW6' := hW6.sub (L' := ⟨3, 1, .slice al (x.ids 0).length cl, (x.ids 0).length, icells (nats (x.ids 0))⟩ :: one 84 w1.heap.size #[.int .i64 x.now, .slice al (x.ids 0).length cl, .slice sa (x.ids 1).length sc, .int .i64 (x.waits : Int), .int .i64 (x.waiting (-1) : Int), .bool x.busy] :: ⟨3, 1, .slice sa (x.ids 1).length sc, (x.ids 1).length, icells (nats (x.ids 1))⟩ :: L0) (fun r hr => by
    rcases List.mem_cons.1 hr with e | hr
    · rw [e]; exact List.mem_cons_of_mem _ (List.mem_cons_self ..)
    · rcases List.mem_cons.1 hr with e | hr
      · rw [e]; exact List.mem_cons_self ..
      · exact List.mem_cons_of_mem _ (List.mem_cons_of_mem _ hr))
  obtain ⟨o6, vs6, hc6, hk6, hat6, hfin6⟩ := hW6'.mark (unhide HG) (fun r' hr' g hg' => by
    rcases List.mem_cons.1 hr' with e | hr'
    · rw [e]
      intro e2
      have e3 : w1.heap.size = g := Option.some.inj e2
      have := unhide HVl g hg'
      omega
    · rcases List.mem_cons.1 hr' with e | hr'
      · rw [e]; exact unhide HNe g hg'
      · intro e; have h1 := unhide HOl r' hr' g e; have h2 := unhide HGe0 g hg'; omega)
  have HK6 := hide (keepInts_any w6 B o6 vs6 ps qs gl gm il im _ (nats (x.ids 0)) hc6 hk6 (by rw [nats_len]; exact row_base hat6.1 (Nat.zero_le _)) hat6.2 (unhide HLi) (unhide HLg) (unhide HI0 0) (by have := unhide HI9; omega))
  have HFin6 := hide hfin6
  clear hb6 hb46 hW6 hW6' hc6 hk6 hat6 hfin6 y2 z2 HS1 HCa HCb HW4 HB5
  generalize (x.waits : Int) = X1 at *
  generalize (x.waiting (-1) : Int) = X2 at *
  go_wp2_with fail
  refine (unhide HK6).mono ?_
  rintro e w7 ⟨rfl, o7, vs7, il7, im7, k1, k2, k3, k4, k5, k6, k7⟩
  have hW7 := unhide HFin6 w7 o7 vs7 gl gm il7 im7 k1 k2 k5 k6 k7
  have r2 : w7.cell? ⟨w1.heap.size, 2, none⟩ = some (.slice sa (x.ids 1).length sc) := own_cell (hW7.row (List.mem_cons_self ..)) (show (#[.int .i64 x.now, .slice al (x.ids 0).length cl, .slice sa (x.ids 1).length sc, .int .i64 X1, .int .i64 X2, .bool x.busy] : Array Value).toList[2]? = some _ from rfl)
  have hW7' := hW7.sub (L' := ⟨3, 1, .slice sa (x.ids 1).length sc, (x.ids 1).length, icells (nats (x.ids 1))⟩ :: L0) (fun r hr => List.mem_cons_of_mem _ hr)
  obtain ⟨o8, vs8, hc8, hk8, hat8, hfin8⟩ := hW7'.mark (unhide HG) (fun r' hr' g hg' e => by have h1 := unhide HOl r' hr' g e; have h2 := unhide HGe1 g hg'; omega)
  have HK8 := hide (keepInts_any w7 B o8 vs8 ps qs gl gm il7 im7 _ (nats (x.ids 1)) hc8 hk8 (by rw [nats_len]; exact row_base hat8.1 (Nat.zero_le _)) hat8.2 (by rw [k3, k4]) (unhide HLg) (unhide HI0 1) (by have := unhide HI9; omega))
  have HFin8 := hide hfin8
  have HL7 := hide k3
  clear k1 k2 k3 k4 k5 k6 k7 hW7 hW7' hc8 hk8 hat8 hfin8 HK6 HFin6 f0 f1 f3 f4 f5 g0 g3 g4 g5
  go_wp2_with fail
  refine (unhide HK8).mono ?_
  rintro e w9 ⟨rfl, o9, vs9, il9, im9, k1, k2, k3, k4, k5, k6, k7⟩
  have HW9 := hide (unhide HFin8 w9 o9 vs9 gl gm il9 im9 k1 k2 k5 k6 k7)
  have h7 := unhide HL7
  have HE1 := hide (show il9.length = il.length + 8 from by omega)
  have HE2 := hide (show im9.length = il.length + 8 from by omega)
  clear k1 k2 k3 k4 k5 k6 k7 HK8 HFin8 r2 h7
  go_wp2_with fail
  go_ret
  exact ⟨rfl, il9, im9, unhide HW9, unhide HE1, unhide HE2⟩
end Go.Proofs.YtcnmajndackohaaGreatDoor
