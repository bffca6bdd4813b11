
import Derived.Test.YtjlngcmkgkiplaaGreatDoorWcAQ
import Derived.Deep.RegionHeld3
set_option maxRecDepth 1000000
set_option maxHeartbeats 8000000
namespace Go.Proofs.YtjlngcmkgkiplaaGreatDoor
open Go.RowKit Go.Maps
structure VF (p : Nat) (L : List InsZ) (size out : Int) (r n : List Int) : Prop where
 h3 : 3 <= p
 h4 : p <= 2147483647
 hr : r.length = 20 + L.length
 hn : n.length = 20 + L.length
 fr : ∀ j, I64 (zat r j)
 fn : ∀ j, I64 (zat n j)
 hI : InsB L
 hl : L.length <= 4398046511104
 h1 : 1 <= L.length
 hsz : I64 size
 hout : I64 out
theorem hemL {p : Nat} {L : List InsZ} {size out : Int} {r n : List Int} (H : VF p L size out r n) : Hid (∀ a : Int, I64 (a % (p : Int))) := fun a => by have := emod_bounds a p H.h3; have := H.h4; unfold I64; omega
theorem llL {p : Nat} {L : List InsZ} {size out : Int} {r n : List Int} (H : VF p L size out r n) (k : Int) (h : k < 21 := by decide) : k < (r.length : Int) := by have := H.hr; have := H.h1; omega
theorem llN {p : Nat} {L : List InsZ} {size out : Int} {r n : List Int} (H : VF p L size out r n) (k : Nat) (h : k < 21 := by decide) : k < r.length := by have := H.hr; have := H.h1; omega
structure VW (p b V : Nat) (L : List InsZ) (size out : Int) (r n : List Int) (aL : Option Addr) (cL : Nat) (ar : Option Addr) (cr : Nat) (an : Option Addr) (cn : Nat) (w : World) : Prop where
 blk : w.heap[V]? = some (.cells #[.pointer (some ⟨b, 0, none⟩), .int .i64 size, .slice aL L.length cL, .int .i64 out, .slice ar r.length cr, .slice an n.length cn] 134 (0, 0))
 fld : w.cell? ⟨b, 0, none⟩ = some (.int .i64 p)
 ins : LstI w.heap.size w aL cL L
 row : RowB w.heap.size w ar r
 nxt : RowB w.heap.size w an n
theorem VW.below {p b V : Nat} {L : List InsZ} {size out : Int} {r n : List Int} {aL : Option Addr} {cL : Nat} {ar : Option Addr} {cr : Nat} {an : Option Addr} {cn : Nat} {w w' : World} (h : VW p b V L size out r n aL cL ar cr an cn w) (e : Below w.heap.size w w') : VW p b V L size out r n aL cL ar cr an cn w' :=
 ⟨(e.block V (Array.getElem?_eq_some_iff.1 h.blk).1).trans h.blk, (e.cell (p := ⟨b, 0, none⟩) (World.block_lt_of_cell? _ _ h.fld)).trans h.fld, (h.ins.below e).mono e.size, RowB.mono e.size (RowB.below e h.row), RowB.mono e.size (RowB.below e h.nxt)⟩
theorem VW.cells {p b V : Nat} {L : List InsZ} {size out : Int} {r n : List Int} {aL : Option Addr} {cL : Nat} {ar : Option Addr} {cr : Nat} {an : Option Addr} {cn : Nat} {w : World} (h : VW p b V L size out r n aL cL ar cr an cn w) : w.cell? ⟨V, 0, none⟩ = some (.pointer (some ⟨b, 0, none⟩)) /\ w.cell? ⟨V, 1, none⟩ = some (.int .i64 size) /\ w.cell? ⟨V, 2, none⟩ = some (.slice aL L.length cL) /\ w.cell? ⟨V, 3, none⟩ = some (.int .i64 out) /\ w.cell? ⟨V, 4, none⟩ = some (.slice ar r.length cr) /\ w.cell? ⟨V, 5, none⟩ = some (.slice an n.length cn) := by
 refine ⟨?_, ?_, ?_, ?_, ?_, ?_⟩ <;> simp [World.cell?, h.blk]
theorem rowB_at {n0 m : Nat} {w : World} {a : Option Addr} {zs : List Int} (h : RowB n0 w a zs) (hl : zs.length = 20 + m) : ∃ g o, a = some ⟨g, o, none⟩ /\ ∀ i, i < 20 + m -> w.cell? ⟨g, o + i, none⟩ = some (.int .i64 (zat zs i)) := by
 obtain ⟨g, o, h1, _, _⟩ := h 0 (by omega)
 refine ⟨g, o, h1, fun i hi => ?_⟩
 obtain ⟨g', o', h2, _, h4⟩ := h i (by omega)
 rw [h1] at h2
 injection h2 with h2
 injection h2 with h2 h3
 subst h2 h3
 exact h4
theorem VW.rowAt {p b V : Nat} {L : List InsZ} {size out : Int} {r n : List Int} {aL : Option Addr} {cL : Nat} {ar : Option Addr} {cr : Nat} {an : Option Addr} {cn : Nat} {w : World} (h : VW p b V L size out r n aL cL ar cr an cn w) (hl : r.length = 20 + L.length) : ∃ g o, ar = some ⟨g, o, none⟩ /\ ∀ i, i < 20 + L.length -> w.cell? ⟨g, o + i, none⟩ = some (.int .i64 (zat r i)) := rowB_at h.row hl
theorem VW.nxtAt {p b V : Nat} {L : List InsZ} {size out : Int} {r n : List Int} {aL : Option Addr} {cL : Nat} {ar : Option Addr} {cr : Nat} {an : Option Addr} {cn : Nat} {w : World} (h : VW p b V L size out r n aL cL ar cr an cn w) (hl : n.length = 20 + L.length) : ∃ g o, an = some ⟨g, o, none⟩ /\ ∀ i, i < 20 + L.length -> w.cell? ⟨g, o + i, none⟩ = some (.int .i64 (zat n i)) := rowB_at h.nxt hl
theorem vnotZero_any (p b V : Nat) (L : List InsZ) (size out : Int) (r n : List Int) (aL : Option Addr) (cL : Nat) (ar : Option Addr) (cr : Nat) (an : Option Addr) (cn : Nat) (w : World) (H : VF p L size out r n) (hV : VW p b V L size out r n aL cL ar cr an cn w)  :
  Calls Tryz.prog 147 #[.pointer (some ⟨V, 0, none⟩)] w fun e w' => e = .returned (.int .i64 ((zat r 11 * zat r 7) % (p : Int))) /\ ∃ m, w' = w.drewN m := by
 have h3 := H.h3
 have h4 := H.h4
 have HEM := hemL H
 obtain ⟨c0, c1, c2, c3, c4, c5⟩ := hV.cells
 have hpc := hV.fld
 have QP := qpL hpc
 obtain ⟨br, orr, har, hrw⟩ := hV.rowAt H.hr
 subst har
 have r7 := hrw 7 (by omega)
 have i7 := H.fr 7
 have l7 := llL H 7
 have r11 := hrw 11 (by omega)
 have i11 := H.fr 11
 have l11 := llL H 11
 clear hrw
 have HC0 := hid (fun W h => mul_any p b (zat r 11) (zat r 7) W h3 h4 h i11.1 i11.2 i7.1 i7.2)
 clear i7 i11
 clear HEM H hV
 generalize (((zat r 11) * (zat r 7)) % (p : Int)) = t1 at *
 generalize zat r 7 = x7 at *
 generalize zat r 11 = x11 at *
 generalize r.length = lr at *
 generalize L.length = nL at *
 go_enter Tryz.func147, Tryz.ntmps147
 go_wp2_with fail
 go_quiet (first
  | (go_at_call 49; first | with_reducible exact Calls.quiet_of_same (HC0.out _ (QP.out _))))
 go_wp2_with fail
 go_ret
 exact ⟨rfl, _, rfl⟩
theorem vchoice_any (p b V : Nat) (L : List InsZ) (size out : Int) (r n : List Int) (aL : Option Addr) (cL : Nat) (ar : Option Addr) (cr : Nat) (an : Option Addr) (cn : Nat) (w : World) (H : VF p L size out r n) (hV : VW p b V L size out r n aL cL ar cr an cn w) (x : Int) (hx : I64 x)  :
  Calls Tryz.prog 114 #[.pointer (some ⟨V, 0, none⟩), .int .i64 x] w fun e w' => e = .returned (.int .i64 ((x * (x - 1)) % (p : Int))) /\ ∃ m, w' = w.drewN m := by
 have h3 := H.h3
 have h4 := H.h4
 have HEM := hemL H
 obtain ⟨c0, c1, c2, c3, c4, c5⟩ := hV.cells
 have hpc := hV.fld
 have QP := qpL hpc
 have HE : Hid ((x * (x - 1)) % (p : Int) = ((x * ((x - (1 : Int)) % (p : Int))) % (p : Int))) := by
  unfold Hid
  simp only [em_mul2]
 obtain ⟨R, hR⟩ := exE ((x * (x - 1)) % (p : Int))
 rw [<- hR] at HE ⊢
 clear hR
 have HC0 := hid (fun W h => sub_any p b x (1 : Int) W h3 h4 h hx.1 hx.2 (show I64 1 by unfold I64; decide).1 (show I64 1 by unfold I64; decide).2)
 have HC1 := hid (fun W h => mul_any p b x (((x - (1 : Int)) % (p : Int))) W h3 h4 h hx.1 hx.2 (HEM.out _).1 (HEM.out _).2)
 clear HEM H hV
 generalize ((x * ((x - (1 : Int)) % (p : Int))) % (p : Int)) = t2 at *
 generalize ((x - (1 : Int)) % (p : Int)) = t1 at *
 generalize L.length = nL at *
 go_enter Tryz.func114, Tryz.ntmps114
 go_wp2_with fail
 go_quiet (first
  | (go_at_call 52; first | with_reducible exact Calls.quiet_of_same (HC0.out _ (QP.out _)))
  | (go_at_call 49; first | with_reducible exact Calls.quiet_of_same (HC1.out _ (QP.out _))))
 go_wp2_with fail
 go_ret
 exact ⟨by have h := HE.out; subst h; rfl, _, rfl⟩
theorem mcells_all (p b : Nat) (op ia ib ic fp ap : Int) (w : World) (h3 : 3 <= p) (h4 : p <= 2147483647) (hp : w.cell? ⟨b, 0, none⟩ = some (.int .i64 p)) (hb : I64 ia /\ I64 ib /\ I64 ic /\ I64 fp /\ I64 ap) :
  Calls Tryz.prog 148 #[.pointer (some ⟨b, 0, none⟩), .agg #[.int .i64 op, .int .i64 ia, .int .i64 ib, .int .i64 ic], .int .i64 fp, .int .i64 ap] w (CeR p op ia ib ic fp ap w) := by
 by_cases g0 : op = 0; · subst g0; exact pcells_0 p b ia ib ic fp ap w h3 h4 hp hb
 by_cases g1 : op = 1; · subst g1; exact pcells_1 p b ia ib ic fp ap w h3 h4 hp hb
 by_cases g2 : op = 2; · subst g2; exact pcells_2 p b ia ib ic fp ap w h3 h4 hp hb
 by_cases g3 : op = 3; · subst g3; exact pcells_3 p b ia ib ic fp ap w h3 h4 hp hb
 by_cases g4 : op = 4; · subst g4; exact pcells_4 p b ia ib ic fp ap w h3 h4 hp hb
 by_cases g5 : op = 5; · subst g5; exact pcells_5 p b ia ib ic fp ap w h3 h4 hp hb
 by_cases g6 : op = 6; · subst g6; exact pcells_6 p b ia ib ic fp ap w h3 h4 hp hb
 by_cases g7 : op = 7; · subst g7; exact pcells_7 p b ia ib ic fp ap w h3 h4 hp hb
 by_cases g8 : op = 8; · subst g8; exact pcells_8 p b ia ib ic fp ap w hp
 by_cases g9 : op = 9; · subst g9; exact pcells_9 p b ia ib ic fp ap w h3 h4 hp hb
 by_cases g10 : op = 10; · subst g10; exact pcells_10 p b ia ib ic fp ap w h3 h4 hp hb
 by_cases g11 : op = 11; · subst g11; exact pcells_11 p b ia ib ic fp ap w h3 h4 hp hb
 by_cases g12 : op = 12; · subst g12; exact pcells_12 p b ia ib ic fp ap w h3 h4 hp hb
 by_cases g13 : op = 13; · subst g13; exact pcells_13 p b ia ib ic fp ap w h3 h4 hp hb
 exact pcells_x p b op ia ib ic fp ap w hp ⟨g0, g1, g2, g3, g4, g5, g6, g7, g9, g10, g11, g12, g13⟩
theorem iy3_0 (x y z : Int) (w : World) : (Instr.index 183 (.agg #[.int .i64 x, .int .i64 y, .int .i64 z]) (.int .i64 0)).run Tryz.prog w = .ok (.int .i64 x) w := by kernel_rfl
theorem iy3_1 (x y z : Int) (w : World) : (Instr.index 183 (.agg #[.int .i64 x, .int .i64 y, .int .i64 z]) (.int .i64 1)).run Tryz.prog w = .ok (.int .i64 y) w := by kernel_rfl
theorem iy3_2 (x y z : Int) (w : World) : (Instr.index 183 (.agg #[.int .i64 x, .int .i64 y, .int .i64 z]) (.int .i64 2)).run Tryz.prog w = .ok (.int .i64 z) w := by kernel_rfl
theorem put3_cell {W : World} {G : Nat} {a b c : Value} {p : Addr} (h : p.block ≠ G) : (((W.setCell ⟨G, 0, none⟩ a).setCell ⟨G, 1, none⟩ b).setCell ⟨G, 2, none⟩ c).cell? p = W.cell? p :=
 World.cell?_of_block (by rw [Below.heap_setCell _ _ _ _ h, Below.heap_setCell _ _ _ _ h, Below.heap_setCell _ _ _ _ h])
theorem hrw0 {p b V : Nat} {L : List InsZ} {size out : Int} {r n : List Int} {aL : Option Addr} {cL g o : Nat} {cr : Nat} {an : Option Addr} {cn : Nat} {w : World} (h : VW p b V L size out r n aL cL (some ⟨g, o, none⟩) cr an cn w) (hl : r.length = 20 + L.length) : w.cell? ⟨g, o, none⟩ = some (.int .i64 (zat r 0)) := by
 obtain ⟨g', o', h1, h2⟩ := h.rowAt hl
 injection h1 with h1
 injection h1 with h1 h3
 subst h1 h3
 exact h2 0 (by omega)
theorem vcells_any (p b V : Nat) (L : List InsZ) (size out : Int) (r n : List Int) (aL : Option Addr) (cL : Nat) (ar : Option Addr) (cr : Nat) (an : Option Addr) (cn : Nat) (w : World) (H : VF p L size out r n) (hV : VW p b V L size out r n aL cL ar cr an cn w) (op ia ib ic : Int) (hi : I64 ia /\ I64 ib /\ I64 ic) :
  Calls Tryz.prog 146 #[.pointer (some ⟨V, 0, none⟩), .agg #[.int .i64 op, .int .i64 ia, .int .i64 ib, .int .i64 ic]] w fun e w' => e = .returned (.agg #[.int .i64 (tvC p r 0 ⟨op, ia, ib, ic⟩), .int .i64 (tvC p r 1 ⟨op, ia, ib, ic⟩), .int .i64 (tvC p r 2 ⟨op, ia, ib, ic⟩)]) /\ Below w.heap.size w w' := by
 have h3 := H.h3
 have h4 := H.h4
 obtain ⟨V1, hV1⟩ := exE (w.alloc (.cells #[.int .i64 op, .int .i64 ia, .int .i64 ib, .int .i64 ic] 180))
 obtain ⟨W0, hW0⟩ := exE (V1.alloc (.cells #[.int .i64 0, .int .i64 0, .int .i64 0] 183))
 have b1 := blA hV1
 have hz1 : V1.heap.size = w.heap.size + 1 := by rw [hV1]; simp
 have b2 := blA hW0
 have hb0 := b1.trans (b2.mono b1.size)
 have hs0 : W0.heap[w.heap.size]? = some (.cells #[.int .i64 op, .int .i64 ia, .int .i64 ib, .int .i64 ic] 180 (0, 0)) := (b2.block _ (by omega)).trans (by rw [hV1]; exact heap_alloc_new w _)
 have hr0 : W0.heap[w.heap.size + 1]? = some (.cells #[.int .i64 0, .int .i64 0, .int .i64 0] 183 (0, 0)) := by rw [hW0, <- hz1]; exact heap_alloc_new V1 _
 obtain ⟨I, hI⟩ := exE (w.heap.size)
 obtain ⟨G, hG⟩ := exE (w.heap.size + 1)
 rw [<- hI] at hs0
 rw [<- hG] at hr0
 have HV0 := hid (hV.below hb0)
 have HB0 := hid hb0
 have HGW : Hid (w.heap.size <= G) := by unfold Hid; omega
 obtain ⟨br, orr, har, hrw⟩ := HV0.out.rowAt H.hr
 subst har
 have HK : Hid (∀ W, Below W0.heap.size W0 W -> (W.cell? ⟨V, 0, none⟩ = some (.pointer (some ⟨b, 0, none⟩)) /\ W.cell? ⟨V, 4, none⟩ = some (.slice (some ⟨br, orr, none⟩) r.length cr) /\ W.cell? ⟨br, orr, none⟩ = some (.int .i64 (zat r 0)) /\ W.cell? ⟨br, orr + 1, none⟩ = some (.int .i64 (zat r 1)) /\ W.cell? ⟨I, 0, none⟩ = some (.int .i64 op) /\ W.cell? ⟨I, 1, none⟩ = some (.int .i64 ia) /\ W.cell? ⟨I, 2, none⟩ = some (.int .i64 ib) /\ W.cell? ⟨I, 3, none⟩ = some (.int .i64 ic))) := fun W h => by
  obtain ⟨c0, _, _, _, c4, _⟩ := (HV0.out.below h).cells
  have hi2 := (h.block I (Array.getElem?_eq_some_iff.1 hs0).1).trans hs0
  have q0 := hrw 0 (by omega)
  have q1 := hrw 1 (by omega)
  exact ⟨c0, c4, (h.cell (p := ⟨br, orr, none⟩) (World.block_lt_of_cell? _ _ q0)).trans q0, (h.cell (p := ⟨br, orr + 1, none⟩) (World.block_lt_of_cell? _ _ q1)).trans q1, by simp [World.cell?, hi2], by simp [World.cell?, hi2], by simp [World.cell?, hi2], by simp [World.cell?, hi2]⟩
 have HK2 : Hid (∀ (W : World) (a b' c' : Value), Below W0.heap.size W0 W -> ((((W.setCell ⟨G, 0, none⟩ a).setCell ⟨G, 1, none⟩ b').setCell ⟨G, 2, none⟩ c').cell? ⟨V, 0, none⟩ = some (.pointer (some ⟨b, 0, none⟩)) /\ (((W.setCell ⟨G, 0, none⟩ a).setCell ⟨G, 1, none⟩ b').setCell ⟨G, 2, none⟩ c').cell? ⟨V, 4, none⟩ = some (.slice (some ⟨br, orr, none⟩) r.length cr) /\ (((W.setCell ⟨G, 0, none⟩ a).setCell ⟨G, 1, none⟩ b').setCell ⟨G, 2, none⟩ c').cell? ⟨br, orr, none⟩ = some (.int .i64 (zat r 0)) /\ (((W.setCell ⟨G, 0, none⟩ a).setCell ⟨G, 1, none⟩ b').setCell ⟨G, 2, none⟩ c').cell? ⟨br, orr + 1, none⟩ = some (.int .i64 (zat r 1)) /\ (((W.setCell ⟨G, 0, none⟩ a).setCell ⟨G, 1, none⟩ b').setCell ⟨G, 2, none⟩ c').cell? ⟨I, 0, none⟩ = some (.int .i64 op) /\ (((W.setCell ⟨G, 0, none⟩ a).setCell ⟨G, 1, none⟩ b').setCell ⟨G, 2, none⟩ c').cell? ⟨I, 1, none⟩ = some (.int .i64 ia) /\ (((W.setCell ⟨G, 0, none⟩ a).setCell ⟨G, 1, none⟩ b').setCell ⟨G, 2, none⟩ c').cell? ⟨I, 2, none⟩ = some (.int .i64 ib) /\ (((W.setCell ⟨G, 0, none⟩ a).setCell ⟨G, 1, none⟩ b').setCell ⟨G, 2, none⟩ c').cell? ⟨I, 3, none⟩ = some (.int .i64 ic))) := fun W a b' c' h => by
  have hvl : V ≠ G := by have := (Array.getElem?_eq_some_iff.1 hV.blk).1; omega
  have hrl : br ≠ G := by
   have h9 : br < w.heap.size := World.block_lt_of_cell? _ _ (hrw0 hV H.hr)
   omega
  have hil : I ≠ G := by omega
  simp only [put3_cell (p := ⟨V, 0, none⟩) hvl, put3_cell (p := ⟨V, 4, none⟩) hvl, put3_cell (p := ⟨br, orr, none⟩) hrl, put3_cell (p := ⟨br, orr + 1, none⟩) hrl, put3_cell (p := ⟨I, 0, none⟩) hil, put3_cell (p := ⟨I, 1, none⟩) hil, put3_cell (p := ⟨I, 2, none⟩) hil, put3_cell (p := ⟨I, 3, none⟩) hil]
  exact HK.out W h
 have HCL : Hid (∀ W, Below W0.heap.size W0 W -> Calls Tryz.prog 148 #[.pointer (some ⟨b, 0, none⟩), .agg #[.int .i64 op, .int .i64 ia, .int .i64 ib, .int .i64 ic], .int .i64 (zat r 0), .int .i64 (zat r 1)] W fun e w' => e = .returned (.agg #[.int .i64 (tvC p r 0 ⟨op, ia, ib, ic⟩), .int .i64 (tvC p r 1 ⟨op, ia, ib, ic⟩), .int .i64 (tvC p r 2 ⟨op, ia, ib, ic⟩)]) /\ Below W0.heap.size W0 w') := fun W h => by
  refine (mcells_all p b op ia ib ic (zat r 0) (zat r 1) W h3 h4 (HV0.out.below h).fld ⟨hi.1, hi.2.1, hi.2.2, H.fr 0, H.fr 1⟩).mono ?_
  rintro e w' ⟨rfl, hb⟩
  exact ⟨rfl, h.trans (hb.mono h.size)⟩
 have HR3 : Hid (∀ W, Below W0.heap.size W0 W -> W.heap[G]? = some (.cells #[.int .i64 0, .int .i64 0, .int .i64 0] 183 (0, 0))) := fun W h => (h.block G (Array.getElem?_eq_some_iff.1 hr0).1).trans hr0
 have l0 := llL H 0
 have l1 := llL H 1
 have l0' := llN H 0
 have l1' := llN H 1
 have hdd : Below W0.heap.size W0 W0.drew := (Below.refl _ _).drew
 have hd0 : Below W0.heap.size W0 W0 := Below.refl _ _
 generalize tvC p r 0 ⟨op, ia, ib, ic⟩ = y0 at *
 generalize tvC p r 1 ⟨op, ia, ib, ic⟩ = y1 at *
 generalize tvC p r 2 ⟨op, ia, ib, ic⟩ = y2 at *
 generalize zat r 0 = x0 at *
 generalize zat r 1 = x1 at *
 generalize r.length = lr at *
 clear H hV b1 b2 hb0 hs0 hr0 hrw hi HV0
 go_enter Tryz.func146, Tryz.ntmps146
 go_wp2_with fail
 rw [<- hV1, <- hW0]
 rw [<- hG, <- hI]
 clear hV1 hW0 hz1 hG hI
 go_region_held3 (fun W => W.cell? ⟨V, 0, none⟩ = some (.pointer (some ⟨b, 0, none⟩)) /\ W.cell? ⟨V, 4, none⟩ = some (.slice (some ⟨br, orr, none⟩) lr cr) /\ W.cell? ⟨br, orr, none⟩ = some (.int .i64 x0) /\ W.cell? ⟨br, orr + 1, none⟩ = some (.int .i64 x1) /\ W.cell? ⟨I, 0, none⟩ = some (.int .i64 op) /\ W.cell? ⟨I, 1, none⟩ = some (.int .i64 ia) /\ W.cell? ⟨I, 2, none⟩ = some (.int .i64 ib) /\ W.cell? ⟨I, 3, none⟩ = some (.int .i64 ic)) (first | exact HK.out _ (by assumption) | exact HK2.out _ _ _ _ (by assumption))
  (first | (go_at_call 148; refine (HCL.out _ (by assumption)).mono ?_; rintro e w' ⟨rfl, hb'⟩; have hg := HR3.out _ hb'; have z0 : w'.cell? ⟨G, 0, none⟩ = some (.int .i64 0) := (by simp [World.cell?, hg]); have z1 : w'.cell? ⟨G, 1, none⟩ = some (.int .i64 0) := (by simp [World.cell?, hg]); have z2 : w'.cell? ⟨G, 2, none⟩ = some (.int .i64 0) := (by simp [World.cell?, hg]); have y' : ∀ i, w'.frozen? ⟨G, i, none⟩ = false := (row3_of hg).frozen))
 have HBX := hid (HB0.out.trans (hb'.mono HB0.out.size))
 go_wp2_with fail
 (try simp only [Exit.inBlock, Exit.then])
 refine bodyPost_ret (results_cell_row rfl _ _ G 183 #[.int .i64 y0, .int .i64 y1, .int .i64 y2] (0, 0) _ rfl (put3_heap hg (.int .i64 y0) (.int .i64 y1) (.int .i64 y2)) Tryz.underlying183 rfl (by kernel_rfl)) rfl ?_
 first
  | exact ⟨rfl, put3_below HBX.out HGW.out _ _ _⟩
  | exact ⟨rfl, (put3_below HBX.out HGW.out _ _ _).drew⟩
theorem vfirstCell_any (p b V : Nat) (L : List InsZ) (size out : Int) (r n : List Int) (aL : Option Addr) (cL : Nat) (ar : Option Addr) (cr : Nat) (an : Option Addr) (cn : Nat) (w : World) (H : VF p L size out r n) (hV : VW p b V L size out r n aL cL ar cr an cn w) (k : Nat) (op ia ib ic : Int) (hi : I64 ia /\ I64 ib /\ I64 ic) :
  Calls Tryz.prog 130 #[.pointer (some ⟨V, 0, none⟩), .int .i64 (k : Int), .agg #[.int .i64 op, .int .i64 ia, .int .i64 ib, .int .i64 ic]] w fun e w' => e = .returned (.int .i64 (tvC p r 0 ⟨op, ia, ib, ic⟩)) /\ Below w.heap.size w w' := by
 obtain ⟨W0, hW0⟩ := exE (w.alloc (.cells #[.int .i64 op, .int .i64 ia, .int .i64 ib, .int .i64 ic] 180))
 have hb0 := blA hW0
 have HC := hid (vcells_any p b V L size out r n aL cL ar cr an cn W0 H (hV.below hb0) op ia ib ic hi)
 have HB0 := hid hb0
 generalize tvC p r 0 ⟨op, ia, ib, ic⟩ = y0 at *
 generalize tvC p r 1 ⟨op, ia, ib, ic⟩ = y1 at *
 generalize tvC p r 2 ⟨op, ia, ib, ic⟩ = y2 at *
 have hx0 := iy3_0 y0 y1 y2
 have hx1 := iy3_1 y0 y1 y2
 have hx2 := iy3_2 y0 y1 y2
 clear H hV hb0 hi
 go_enter Tryz.func130, Tryz.ntmps130
 go_wp2_with fail
 rw [<- hW0]
 clear hW0
 refine HC.out.mono ?_
 rintro e w1 ⟨rfl, hb1⟩
 have HB1 := hid (HB0.out.trans (hb1.mono HB0.out.size))
 clear hb1 HC
 go_wp2_with fail
 go_ret
 exact ⟨rfl, HB1.out⟩
theorem vsecondCell_any (p b V : Nat) (L : List InsZ) (size out : Int) (r n : List Int) (aL : Option Addr) (cL : Nat) (ar : Option Addr) (cr : Nat) (an : Option Addr) (cn : Nat) (w : World) (H : VF p L size out r n) (hV : VW p b V L size out r n aL cL ar cr an cn w) (k : Nat) (op ia ib ic : Int) (hi : I64 ia /\ I64 ib /\ I64 ic) :
  Calls Tryz.prog 131 #[.pointer (some ⟨V, 0, none⟩), .int .i64 (k : Int), .agg #[.int .i64 op, .int .i64 ia, .int .i64 ib, .int .i64 ic]] w fun e w' => e = .returned (.int .i64 (tvC p r 1 ⟨op, ia, ib, ic⟩)) /\ Below w.heap.size w w' := by
 obtain ⟨W0, hW0⟩ := exE (w.alloc (.cells #[.int .i64 op, .int .i64 ia, .int .i64 ib, .int .i64 ic] 180))
 have hb0 := blA hW0
 have HC := hid (vcells_any p b V L size out r n aL cL ar cr an cn W0 H (hV.below hb0) op ia ib ic hi)
 have HB0 := hid hb0
 generalize tvC p r 0 ⟨op, ia, ib, ic⟩ = y0 at *
 generalize tvC p r 1 ⟨op, ia, ib, ic⟩ = y1 at *
 generalize tvC p r 2 ⟨op, ia, ib, ic⟩ = y2 at *
 have hx0 := iy3_0 y0 y1 y2
 have hx1 := iy3_1 y0 y1 y2
 have hx2 := iy3_2 y0 y1 y2
 clear H hV hb0 hi
 go_enter Tryz.func131, Tryz.ntmps131
 go_wp2_with fail
 rw [<- hW0]
 clear hW0
 refine HC.out.mono ?_
 rintro e w1 ⟨rfl, hb1⟩
 have HB1 := hid (HB0.out.trans (hb1.mono HB0.out.size))
 clear hb1 HC
 go_wp2_with fail
 go_ret
 exact ⟨rfl, HB1.out⟩
theorem vthirdCell_any (p b V : Nat) (L : List InsZ) (size out : Int) (r n : List Int) (aL : Option Addr) (cL : Nat) (ar : Option Addr) (cr : Nat) (an : Option Addr) (cn : Nat) (w : World) (H : VF p L size out r n) (hV : VW p b V L size out r n aL cL ar cr an cn w) (k : Nat) (op ia ib ic : Int) (hi : I64 ia /\ I64 ib /\ I64 ic) :
  Calls Tryz.prog 132 #[.pointer (some ⟨V, 0, none⟩), .int .i64 (k : Int), .agg #[.int .i64 op, .int .i64 ia, .int .i64 ib, .int .i64 ic]] w fun e w' => e = .returned (.int .i64 (tvC p r 2 ⟨op, ia, ib, ic⟩)) /\ Below w.heap.size w w' := by
 obtain ⟨W0, hW0⟩ := exE (w.alloc (.cells #[.int .i64 op, .int .i64 ia, .int .i64 ib, .int .i64 ic] 180))
 have hb0 := blA hW0
 have HC := hid (vcells_any p b V L size out r n aL cL ar cr an cn W0 H (hV.below hb0) op ia ib ic hi)
 have HB0 := hid hb0
 generalize tvC p r 0 ⟨op, ia, ib, ic⟩ = y0 at *
 generalize tvC p r 1 ⟨op, ia, ib, ic⟩ = y1 at *
 generalize tvC p r 2 ⟨op, ia, ib, ic⟩ = y2 at *
 have hx0 := iy3_0 y0 y1 y2
 have hx1 := iy3_1 y0 y1 y2
 have hx2 := iy3_2 y0 y1 y2
 clear H hV hb0 hi
 go_enter Tryz.func132, Tryz.ntmps132
 go_wp2_with fail
 rw [<- hW0]
 clear hW0
 refine HC.out.mono ?_
 rintro e w1 ⟨rfl, hb1⟩
 have HB1 := hid (HB0.out.trans (hb1.mono HB0.out.size))
 clear hb1 HC
 go_wp2_with fail
 go_ret
 exact ⟨rfl, HB1.out⟩
theorem vpc_0 (p b V : Nat) (L : List InsZ) (size out : Int) (r n : List Int) (aL : Option Addr) (cL : Nat) (ar : Option Addr) (cr : Nat) (an : Option Addr) (cn : Nat) (w : World) (H : VF p L size out r n) (hV : VW p b V L size out r n aL cL ar cr an cn w) (k : Nat) (ia ib ic : Int) (hi : k < 281474976710656 /\ I64 ia /\ I64 ib /\ I64 ic)  :
  Calls Tryz.prog 136 #[.pointer (some ⟨V, 0, none⟩), .int .i64 (k : Int), .agg #[.int .i64 0, .int .i64 ia, .int .i64 ib, .int .i64 ic]] w fun e w' => e = .returned (.int .i64 (tvN p r k ⟨0, ia, ib, ic⟩)) /\ Below w.heap.size w w' := by
 have h3 := H.h3
 have h4 := H.h4
 obtain ⟨hk, hia, hib, hic⟩ := hi
 have HEM := hemL H
 obtain ⟨W0, hW0⟩ := exE (w.alloc (.cells #[.int .i64 0, .int .i64 ia, .int .i64 ib, .int .i64 ic] 180))
 have hb0 := blA hW0
 have hs0 := haA hW0
 have k0 := clA 0 hs0 rfl
 have k1 := clA 1 hs0 rfl
 have k2 := clA 2 hs0 rfl
 have k3 := clA 3 hs0 rfl
 replace hV := hV.below hb0
 have HB0 := hid hb0
 clear hs0 hb0
 obtain ⟨c0, c1, c2, c3, c4, c5⟩ := hV.cells
 have hpc := hV.fld
 have QP := qpL hpc
 have HE : Hid (tvN p r k ⟨0, ia, ib, ic⟩ = (k : Int)) := rfl
 obtain ⟨R, hR⟩ := exE (tvN p r k ⟨0, ia, ib, ic⟩)
 rw [<- hR] at HE ⊢
 clear hR
 clear HEM H hV
 generalize L.length = nL at *
 subst hW0
 go_enter Tryz.func136, Tryz.ntmps136
 go_wp2_with fail
 go_ret
 exact ⟨by have h := HE.out; subst h; rfl, HB0.out⟩
theorem vpc_8 (p b V : Nat) (L : List InsZ) (size out : Int) (r n : List Int) (aL : Option Addr) (cL : Nat) (ar : Option Addr) (cr : Nat) (an : Option Addr) (cn : Nat) (w : World) (H : VF p L size out r n) (hV : VW p b V L size out r n aL cL ar cr an cn w) (k : Nat) (ia ib ic : Int) (hi : k < 281474976710656 /\ I64 ia /\ I64 ib /\ I64 ic)  :
  Calls Tryz.prog 136 #[.pointer (some ⟨V, 0, none⟩), .int .i64 (k : Int), .agg #[.int .i64 8, .int .i64 ia, .int .i64 ib, .int .i64 ic]] w fun e w' => e = .returned (.int .i64 (tvN p r k ⟨8, ia, ib, ic⟩)) /\ Below w.heap.size w w' := by
 have h3 := H.h3
 have h4 := H.h4
 obtain ⟨hk, hia, hib, hic⟩ := hi
 have HEM := hemL H
 obtain ⟨W0, hW0⟩ := exE (w.alloc (.cells #[.int .i64 8, .int .i64 ia, .int .i64 ib, .int .i64 ic] 180))
 have hb0 := blA hW0
 have hs0 := haA hW0
 have k0 := clA 0 hs0 rfl
 have k1 := clA 1 hs0 rfl
 have k2 := clA 2 hs0 rfl
 have k3 := clA 3 hs0 rfl
 replace hV := hV.below hb0
 have HB0 := hid hb0
 clear hs0 hb0
 obtain ⟨c0, c1, c2, c3, c4, c5⟩ := hV.cells
 have hpc := hV.fld
 have QP := qpL hpc
 have HE : Hid (tvN p r k ⟨8, ia, ib, ic⟩ = ia) := rfl
 obtain ⟨R, hR⟩ := exE (tvN p r k ⟨8, ia, ib, ic⟩)
 rw [<- hR] at HE ⊢
 clear hR
 clear HEM H hV
 generalize L.length = nL at *
 subst hW0
 go_enter Tryz.func136, Tryz.ntmps136
 go_wp2_with fail
 go_ret
 exact ⟨by have h := HE.out; subst h; rfl, HB0.out⟩
theorem vpc_10 (p b V : Nat) (L : List InsZ) (size out : Int) (r n : List Int) (aL : Option Addr) (cL : Nat) (ar : Option Addr) (cr : Nat) (an : Option Addr) (cn : Nat) (w : World) (H : VF p L size out r n) (hV : VW p b V L size out r n aL cL ar cr an cn w) (k : Nat) (ia ib ic : Int) (hi : k < 281474976710656 /\ I64 ia /\ I64 ib /\ I64 ic)  :
  Calls Tryz.prog 136 #[.pointer (some ⟨V, 0, none⟩), .int .i64 (k : Int), .agg #[.int .i64 10, .int .i64 ia, .int .i64 ib, .int .i64 ic]] w fun e w' => e = .returned (.int .i64 (tvN p r k ⟨10, ia, ib, ic⟩)) /\ Below w.heap.size w w' := by
 have h3 := H.h3
 have h4 := H.h4
 obtain ⟨hk, hia, hib, hic⟩ := hi
 have HEM := hemL H
 obtain ⟨W0, hW0⟩ := exE (w.alloc (.cells #[.int .i64 10, .int .i64 ia, .int .i64 ib, .int .i64 ic] 180))
 have hb0 := blA hW0
 have hs0 := haA hW0
 have k0 := clA 0 hs0 rfl
 have k1 := clA 1 hs0 rfl
 have k2 := clA 2 hs0 rfl
 have k3 := clA 3 hs0 rfl
 replace hV := hV.below hb0
 have HB0 := hid hb0
 clear hs0 hb0
 obtain ⟨c0, c1, c2, c3, c4, c5⟩ := hV.cells
 have hpc := hV.fld
 have QP := qpL hpc
 have HE : Hid (tvN p r k ⟨10, ia, ib, ic⟩ = ia) := rfl
 obtain ⟨R, hR⟩ := exE (tvN p r k ⟨10, ia, ib, ic⟩)
 rw [<- hR] at HE ⊢
 clear hR
 clear HEM H hV
 generalize L.length = nL at *
 subst hW0
 go_enter Tryz.func136, Tryz.ntmps136
 go_wp2_with fail
 go_ret
 exact ⟨by have h := HE.out; subst h; rfl, HB0.out⟩
theorem vpc_9 (p b V : Nat) (L : List InsZ) (size out : Int) (r n : List Int) (aL : Option Addr) (cL : Nat) (ar : Option Addr) (cr : Nat) (an : Option Addr) (cn : Nat) (w : World) (H : VF p L size out r n) (hV : VW p b V L size out r n aL cL ar cr an cn w) (k : Nat) (ia ib ic : Int) (hi : k < 281474976710656 /\ I64 ia /\ I64 ib /\ I64 ic)  :
  Calls Tryz.prog 136 #[.pointer (some ⟨V, 0, none⟩), .int .i64 (k : Int), .agg #[.int .i64 9, .int .i64 ia, .int .i64 ib, .int .i64 ic]] w fun e w' => e = .returned (.int .i64 (tvN p r k ⟨9, ia, ib, ic⟩)) /\ Below w.heap.size w w' := by
 have h3 := H.h3
 have h4 := H.h4
 obtain ⟨hk, hia, hib, hic⟩ := hi
 have HEM := hemL H
 obtain ⟨W0, hW0⟩ := exE (w.alloc (.cells #[.int .i64 9, .int .i64 ia, .int .i64 ib, .int .i64 ic] 180))
 have hb0 := blA hW0
 have hs0 := haA hW0
 have k0 := clA 0 hs0 rfl
 have k1 := clA 1 hs0 rfl
 have k2 := clA 2 hs0 rfl
 have k3 := clA 3 hs0 rfl
 replace hV := hV.below hb0
 have HB0 := hid hb0
 clear hs0 hb0
 obtain ⟨c0, c1, c2, c3, c4, c5⟩ := hV.cells
 have hpc := hV.fld
 have QP := qpL hpc
 obtain ⟨br, orr, har, hrw⟩ := hV.rowAt H.hr
 subst har
 have r7 := hrw 7 (by omega)
 have i7 := H.fr 7
 have l7 := llL H 7
 have r11 := hrw 11 (by omega)
 have i11 := H.fr 11
 have l11 := llL H 11
 clear hrw
 have hk1 : I64 ((k : Int) + 1) := by unfold I64; omega
 have hw : IntKind.i64.wrap ((k : Int) + 1) = (k : Int) + 1 := by rw [IntKind.wrap_i64]; omega
 have HE : Hid (tvN p r k ⟨9, ia, ib, ic⟩ = (((((((1 : Int) - ((zat r 11 * zat r 7) % (p : Int))) % (p : Int)) * ib) % (p : Int)) + ((((zat r 11 * zat r 7) % (p : Int)) * ((k : Int) + 1)) % (p : Int))) % (p : Int))) := by
  unfold Hid
  rw [show tvN p r k ⟨9, ia, ib, ic⟩ = ((1 - zat r 11 * zat r 7) * ib + zat r 11 * zat r 7 * ((k : Int) + 1)) % (p : Int) from rfl]
  simp only [em_add1, em_add2, em_mul1, em_sub2]
 obtain ⟨R, hR⟩ := exE (tvN p r k ⟨9, ia, ib, ic⟩)
 rw [<- hR] at HE ⊢
 clear hR
 have HC0 : Hid (∀ m, Calls Tryz.prog 147 #[.pointer (some ⟨V, 0, none⟩)] (W0.drewN m) fun e w' => e = .returned (.int .i64 ((zat r 11 * zat r 7) % (p : Int))) /\ ∃ k, w' = (W0.drewN m).drewN k) := fun m => vnotZero_any p b V L size out r n aL cL _ cr an cn _ H (hV.below (below_drewN (Below.refl _ _) m))
 have HC1 := hid (fun W h => sub_any p b (1 : Int) (((zat r 11 * zat r 7) % (p : Int))) W h3 h4 h (show I64 1 by unfold I64; decide).1 (show I64 1 by unfold I64; decide).2 (HEM.out _).1 (HEM.out _).2)
 have HC2 := hid (fun W h => mul_any p b ((((1 : Int) - ((zat r 11 * zat r 7) % (p : Int))) % (p : Int))) ib W h3 h4 h (HEM.out _).1 (HEM.out _).2 hib.1 hib.2)
 have HC3 : Hid (∀ m, Calls Tryz.prog 147 #[.pointer (some ⟨V, 0, none⟩)] (W0.drewN m) fun e w' => e = .returned (.int .i64 ((zat r 11 * zat r 7) % (p : Int))) /\ ∃ k, w' = (W0.drewN m).drewN k) := fun m => vnotZero_any p b V L size out r n aL cL _ cr an cn _ H (hV.below (below_drewN (Below.refl _ _) m))
 have HC4 := hid (fun W h => mul_any p b (((zat r 11 * zat r 7) % (p : Int))) (((k : Int) + 1)) W h3 h4 h (HEM.out _).1 (HEM.out _).2 hk1.1 hk1.2)
 have HC5 := hid (fun W h => add_any p b ((((((1 : Int) - ((zat r 11 * zat r 7) % (p : Int))) % (p : Int)) * ib) % (p : Int))) (((((zat r 11 * zat r 7) % (p : Int)) * ((k : Int) + 1)) % (p : Int))) W h3 h4 h (HEM.out _).1 (HEM.out _).2 (HEM.out _).1 (HEM.out _).2)
 clear i7 i11
 clear HEM H hV
 generalize (((((((1 : Int) - ((zat r 11 * zat r 7) % (p : Int))) % (p : Int)) * ib) % (p : Int)) + ((((zat r 11 * zat r 7) % (p : Int)) * ((k : Int) + 1)) % (p : Int))) % (p : Int)) = t6 at *
 generalize ((((zat r 11 * zat r 7) % (p : Int)) * ((k : Int) + 1)) % (p : Int)) = t5 at *
 generalize ((zat r 11 * zat r 7) % (p : Int)) = t1 at *
 generalize (((((1 : Int) - ((zat r 11 * zat r 7) % (p : Int))) % (p : Int)) * ib) % (p : Int)) = t3 at *
 generalize (((1 : Int) - ((zat r 11 * zat r 7) % (p : Int))) % (p : Int)) = t2 at *
 generalize ((zat r 11 * zat r 7) % (p : Int)) = t1 at *
 generalize zat r 7 = x7 at *
 generalize zat r 11 = x11 at *
 generalize r.length = lr at *
 generalize L.length = nL at *
 go_enter Tryz.func136, Tryz.ntmps136
 go_wp2_with fail
 rw [<- hW0]
 clear hW0
 go_wp2_with fail
 go_quiet (first
  | (go_at_call 147; first | with_reducible exact Calls.quiet_of (HC0.out _) | with_reducible exact Calls.quiet_of (HC3.out _))
  | (go_at_call 52; first | with_reducible exact Calls.quiet_of_same (HC1.out _ (QP.out _)))
  | (go_at_call 49; first | with_reducible exact Calls.quiet_of_same (HC2.out _ (QP.out _)) | with_reducible exact Calls.quiet_of_same (HC4.out _ (QP.out _)))
  | (go_at_call 92; first | with_reducible exact Calls.quiet_of_same (HC5.out _ (QP.out _))))
 go_wp2_with fail
 go_ret
 exact ⟨by have h := HE.out; subst h; rfl, below_drewN HB0.out _⟩
theorem vpc_11 (p b V : Nat) (L : List InsZ) (size out : Int) (r n : List Int) (aL : Option Addr) (cL : Nat) (ar : Option Addr) (cr : Nat) (an : Option Addr) (cn : Nat) (w : World) (H : VF p L size out r n) (hV : VW p b V L size out r n aL cL ar cr an cn w) (k : Nat) (ia ib ic : Int) (hi : k < 281474976710656 /\ I64 ia /\ I64 ib /\ I64 ic)  :
  Calls Tryz.prog 136 #[.pointer (some ⟨V, 0, none⟩), .int .i64 (k : Int), .agg #[.int .i64 11, .int .i64 ia, .int .i64 ib, .int .i64 ic]] w fun e w' => e = .returned (.int .i64 (tvN p r k ⟨11, ia, ib, ic⟩)) /\ Below w.heap.size w w' := by
 have h3 := H.h3
 have h4 := H.h4
 obtain ⟨hk, hia, hib, hic⟩ := hi
 have HEM := hemL H
 obtain ⟨W0, hW0⟩ := exE (w.alloc (.cells #[.int .i64 11, .int .i64 ia, .int .i64 ib, .int .i64 ic] 180))
 have hb0 := blA hW0
 have hs0 := haA hW0
 have k0 := clA 0 hs0 rfl
 have k1 := clA 1 hs0 rfl
 have k2 := clA 2 hs0 rfl
 have k3 := clA 3 hs0 rfl
 replace hV := hV.below hb0
 have HB0 := hid hb0
 clear hs0 hb0
 obtain ⟨c0, c1, c2, c3, c4, c5⟩ := hV.cells
 have hpc := hV.fld
 have QP := qpL hpc
 obtain ⟨br, orr, har, hrw⟩ := hV.rowAt H.hr
 subst har
 have r8 := hrw 8 (by omega)
 have i8 := H.fr 8
 have l8 := llL H 8
 clear hrw
 have HE : Hid (tvN p r k ⟨11, ia, ib, ic⟩ = (zat r 8)) := rfl
 obtain ⟨R, hR⟩ := exE (tvN p r k ⟨11, ia, ib, ic⟩)
 rw [<- hR] at HE ⊢
 clear hR
 clear i8
 clear HEM H hV
 generalize zat r 8 = x8 at *
 generalize r.length = lr at *
 generalize L.length = nL at *
 subst hW0
 go_enter Tryz.func136, Tryz.ntmps136
 go_wp2_with fail
 go_ret
 exact ⟨by have h := HE.out; subst h; rfl, HB0.out⟩
theorem vpc_x (p b V : Nat) (L : List InsZ) (size out : Int) (r n : List Int) (aL : Option Addr) (cL : Nat) (ar : Option Addr) (cr : Nat) (an : Option Addr) (cn : Nat) (w : World) (H : VF p L size out r n) (hV : VW p b V L size out r n aL cL ar cr an cn w) (k : Nat) (ia ib ic : Int) (hi : k < 281474976710656 /\ I64 ia /\ I64 ib /\ I64 ic) (op : Int) (hno : op ≠ 0 /\ op ≠ 8 /\ op ≠ 9 /\ op ≠ 10 /\ op ≠ 11)  :
  Calls Tryz.prog 136 #[.pointer (some ⟨V, 0, none⟩), .int .i64 (k : Int), .agg #[.int .i64 op, .int .i64 ia, .int .i64 ib, .int .i64 ic]] w fun e w' => e = .returned (.int .i64 (tvN p r k ⟨op, ia, ib, ic⟩)) /\ Below w.heap.size w w' := by
 have h3 := H.h3
 have h4 := H.h4
 obtain ⟨hk, hia, hib, hic⟩ := hi
 have HEM := hemL H
 obtain ⟨W0, hW0⟩ := exE (w.alloc (.cells #[.int .i64 op, .int .i64 ia, .int .i64 ib, .int .i64 ic] 180))
 have hb0 := blA hW0
 have hs0 := haA hW0
 have k0 := clA 0 hs0 rfl
 have k1 := clA 1 hs0 rfl
 have k2 := clA 2 hs0 rfl
 have k3 := clA 3 hs0 rfl
 replace hV := hV.below hb0
 have HB0 := hid hb0
 clear hs0 hb0
 obtain ⟨c0, c1, c2, c3, c4, c5⟩ := hV.cells
 have hpc := hV.fld
 have QP := qpL hpc
 have q0 : (op == 0) = false := by rw [beq_eq_false_iff_ne]; omega
 have q8 : (op == 8) = false := by rw [beq_eq_false_iff_ne]; omega
 have q9 : (op == 9) = false := by rw [beq_eq_false_iff_ne]; omega
 have q10 : (op == 10) = false := by rw [beq_eq_false_iff_ne]; omega
 have q11 : (op == 11) = false := by rw [beq_eq_false_iff_ne]; omega
 have hk1 : I64 ((k : Int) + 1) := by unfold I64; omega
 have hw : IntKind.i64.wrap ((k : Int) + 1) = (k : Int) + 1 := by rw [IntKind.wrap_i64]; omega
 have HE : Hid (tvN p r k ⟨op, ia, ib, ic⟩ = ((k : Int) + 1)) := by unfold Hid; simp [tvN, hno]
 obtain ⟨R, hR⟩ := exE (tvN p r k ⟨op, ia, ib, ic⟩)
 rw [<- hR] at HE ⊢
 clear hR
 clear HEM H hV
 generalize L.length = nL at *
 subst hW0
 go_enter Tryz.func136, Tryz.ntmps136
 go_wp2_with fail
 go_ret
 exact ⟨by have h := HE.out; subst h; rfl, HB0.out⟩
theorem vfp_10 (p b V : Nat) (L : List InsZ) (size out : Int) (r n : List Int) (aL : Option Addr) (cL : Nat) (ar : Option Addr) (cr : Nat) (an : Option Addr) (cn : Nat) (w : World) (H : VF p L size out r n) (hV : VW p b V L size out r n aL cL ar cr an cn w) (k : Nat) (ia ib ic : Int) (hi : k < 281474976710656 /\ I64 ia /\ I64 ib /\ I64 ic)  :
  Calls Tryz.prog 137 #[.pointer (some ⟨V, 0, none⟩), .int .i64 (k : Int), .agg #[.int .i64 10, .int .i64 ia, .int .i64 ib, .int .i64 ic]] w fun e w' => e = .returned (.int .i64 (tvF p r ⟨10, ia, ib, ic⟩)) /\ Below w.heap.size w w' := by
 have h3 := H.h3
 have h4 := H.h4
 obtain ⟨hk, hia, hib, hic⟩ := hi
 have HEM := hemL H
 obtain ⟨W0, hW0⟩ := exE (w.alloc (.cells #[.int .i64 10, .int .i64 ia, .int .i64 ib, .int .i64 ic] 180))
 have hb0 := blA hW0
 have hs0 := haA hW0
 have k0 := clA 0 hs0 rfl
 have k1 := clA 1 hs0 rfl
 have k2 := clA 2 hs0 rfl
 have k3 := clA 3 hs0 rfl
 replace hV := hV.below hb0
 have HB0 := hid hb0
 clear hs0 hb0
 obtain ⟨c0, c1, c2, c3, c4, c5⟩ := hV.cells
 have hpc := hV.fld
 have QP := qpL hpc
 obtain ⟨br, orr, har, hrw⟩ := hV.rowAt H.hr
 subst har
 have r1 := hrw 1 (by omega)
 have i1 := H.fr 1
 have l1 := llL H 1
 clear hrw
 have HE : Hid (tvF p r ⟨10, ia, ib, ic⟩ = (((zat r 1) + (2 : Int)) % (p : Int))) := by
  unfold Hid
  rw [show tvF p r ⟨10, ia, ib, ic⟩ = (zat r 1 + 2) % (p : Int) from rfl]
 obtain ⟨R, hR⟩ := exE (tvF p r ⟨10, ia, ib, ic⟩)
 rw [<- hR] at HE ⊢
 clear hR
 have HC0 := hid (fun W h => add_any p b (zat r 1) (2 : Int) W h3 h4 h i1.1 i1.2 (show I64 2 by unfold I64; decide).1 (show I64 2 by unfold I64; decide).2)
 clear i1
 clear HEM H hV
 generalize (((zat r 1) + (2 : Int)) % (p : Int)) = t1 at *
 generalize zat r 1 = x1 at *
 generalize r.length = lr at *
 generalize L.length = nL at *
 go_enter Tryz.func137, Tryz.ntmps137
 go_wp2_with fail
 rw [<- hW0]
 clear hW0
 go_wp2_with fail
 go_quiet (first
  | (go_at_call 92; first | with_reducible exact Calls.quiet_of_same (HC0.out _ (QP.out _))))
 go_wp2_with fail
 go_ret
 exact ⟨by have h := HE.out; subst h; rfl, below_drewN HB0.out _⟩
theorem vfp_11 (p b V : Nat) (L : List InsZ) (size out : Int) (r n : List Int) (aL : Option Addr) (cL : Nat) (ar : Option Addr) (cr : Nat) (an : Option Addr) (cn : Nat) (w : World) (H : VF p L size out r n) (hV : VW p b V L size out r n aL cL ar cr an cn w) (k : Nat) (ia ib ic : Int) (hi : k < 281474976710656 /\ I64 ia /\ I64 ib /\ I64 ic)  :
  Calls Tryz.prog 137 #[.pointer (some ⟨V, 0, none⟩), .int .i64 (k : Int), .agg #[.int .i64 11, .int .i64 ia, .int .i64 ib, .int .i64 ic]] w fun e w' => e = .returned (.int .i64 (tvF p r ⟨11, ia, ib, ic⟩)) /\ Below w.heap.size w w' := by
 have h3 := H.h3
 have h4 := H.h4
 obtain ⟨hk, hia, hib, hic⟩ := hi
 have HEM := hemL H
 obtain ⟨W0, hW0⟩ := exE (w.alloc (.cells #[.int .i64 11, .int .i64 ia, .int .i64 ib, .int .i64 ic] 180))
 have hb0 := blA hW0
 have hs0 := haA hW0
 have k0 := clA 0 hs0 rfl
 have k1 := clA 1 hs0 rfl
 have k2 := clA 2 hs0 rfl
 have k3 := clA 3 hs0 rfl
 replace hV := hV.below hb0
 have HB0 := hid hb0
 clear hs0 hb0
 obtain ⟨c0, c1, c2, c3, c4, c5⟩ := hV.cells
 have hpc := hV.fld
 have QP := qpL hpc
 obtain ⟨br, orr, har, hrw⟩ := hV.rowAt H.hr
 subst har
 have r7 := hrw 7 (by omega)
 have i7 := H.fr 7
 have l7 := llL H 7
 clear hrw
 have HE : Hid (tvF p r ⟨11, ia, ib, ic⟩ = (zat r 7)) := rfl
 obtain ⟨R, hR⟩ := exE (tvF p r ⟨11, ia, ib, ic⟩)
 rw [<- hR] at HE ⊢
 clear hR
 clear i7
 clear HEM H hV
 generalize zat r 7 = x7 at *
 generalize r.length = lr at *
 generalize L.length = nL at *
 subst hW0
 go_enter Tryz.func137, Tryz.ntmps137
 go_wp2_with fail
 go_ret
 exact ⟨by have h := HE.out; subst h; rfl, HB0.out⟩
theorem vfp_x (p b V : Nat) (L : List InsZ) (size out : Int) (r n : List Int) (aL : Option Addr) (cL : Nat) (ar : Option Addr) (cr : Nat) (an : Option Addr) (cn : Nat) (w : World) (H : VF p L size out r n) (hV : VW p b V L size out r n aL cL ar cr an cn w) (k : Nat) (ia ib ic : Int) (hi : k < 281474976710656 /\ I64 ia /\ I64 ib /\ I64 ic) (op : Int) (hno : op ≠ 10 /\ op ≠ 11)  :
  Calls Tryz.prog 137 #[.pointer (some ⟨V, 0, none⟩), .int .i64 (k : Int), .agg #[.int .i64 op, .int .i64 ia, .int .i64 ib, .int .i64 ic]] w fun e w' => e = .returned (.int .i64 (tvF p r ⟨op, ia, ib, ic⟩)) /\ Below w.heap.size w w' := by
 have h3 := H.h3
 have h4 := H.h4
 obtain ⟨hk, hia, hib, hic⟩ := hi
 have HEM := hemL H
 obtain ⟨W0, hW0⟩ := exE (w.alloc (.cells #[.int .i64 op, .int .i64 ia, .int .i64 ib, .int .i64 ic] 180))
 have hb0 := blA hW0
 have hs0 := haA hW0
 have k0 := clA 0 hs0 rfl
 have k1 := clA 1 hs0 rfl
 have k2 := clA 2 hs0 rfl
 have k3 := clA 3 hs0 rfl
 replace hV := hV.below hb0
 have HB0 := hid hb0
 clear hs0 hb0
 obtain ⟨c0, c1, c2, c3, c4, c5⟩ := hV.cells
 have hpc := hV.fld
 have QP := qpL hpc
 obtain ⟨br, orr, har, hrw⟩ := hV.rowAt H.hr
 subst har
 have r0 := hrw 0 (by omega)
 rw [Nat.add_zero] at r0
 have i0 := H.fr 0
 have l0 := llL H 0
 clear hrw
 have q10 : (op == 10) = false := by rw [beq_eq_false_iff_ne]; omega
 have q11 : (op == 11) = false := by rw [beq_eq_false_iff_ne]; omega
 have HE : Hid (tvF p r ⟨op, ia, ib, ic⟩ = (zat r 0)) := by unfold Hid; simp [tvF, hno]
 obtain ⟨R, hR⟩ := exE (tvF p r ⟨op, ia, ib, ic⟩)
 rw [<- hR] at HE ⊢
 clear hR
 clear i0
 clear HEM H hV
 generalize zat r 0 = x0 at *
 generalize r.length = lr at *
 generalize L.length = nL at *
 subst hW0
 go_enter Tryz.func137, Tryz.ntmps137
 go_wp2_with fail
 go_ret
 exact ⟨by have h := HE.out; subst h; rfl, HB0.out⟩
theorem vap_10 (p b V : Nat) (L : List InsZ) (size out : Int) (r n : List Int) (aL : Option Addr) (cL : Nat) (ar : Option Addr) (cr : Nat) (an : Option Addr) (cn : Nat) (w : World) (H : VF p L size out r n) (hV : VW p b V L size out r n aL cL ar cr an cn w) (k : Nat) (ia ib ic : Int) (hi : k < 281474976710656 /\ I64 ia /\ I64 ib /\ I64 ic)  :
  Calls Tryz.prog 138 #[.pointer (some ⟨V, 0, none⟩), .int .i64 (k : Int), .agg #[.int .i64 10, .int .i64 ia, .int .i64 ib, .int .i64 ic]] w fun e w' => e = .returned (.int .i64 (tvA p r ⟨10, ia, ib, ic⟩)) /\ Below w.heap.size w w' := by
 have h3 := H.h3
 have h4 := H.h4
 obtain ⟨hk, hia, hib, hic⟩ := hi
 have HEM := hemL H
 obtain ⟨W0, hW0⟩ := exE (w.alloc (.cells #[.int .i64 10, .int .i64 ia, .int .i64 ib, .int .i64 ic] 180))
 have hb0 := blA hW0
 have hs0 := haA hW0
 have k0 := clA 0 hs0 rfl
 have k1 := clA 1 hs0 rfl
 have k2 := clA 2 hs0 rfl
 have k3 := clA 3 hs0 rfl
 replace hV := hV.below hb0
 have HB0 := hid hb0
 clear hs0 hb0
 obtain ⟨c0, c1, c2, c3, c4, c5⟩ := hV.cells
 have hpc := hV.fld
 have QP := qpL hpc
 obtain ⟨br, orr, har, hrw⟩ := hV.rowAt H.hr
 subst har
 have r1 := hrw 1 (by omega)
 have i1 := H.fr 1
 have l1 := llL H 1
 clear hrw
 have HE : Hid (tvA p r ⟨10, ia, ib, ic⟩ = (((((zat r 1) + (2 : Int)) % (p : Int)) + ib) % (p : Int))) := by
  unfold Hid
  rw [show tvA p r ⟨10, ia, ib, ic⟩ = (zat r 1 + 2 + ib) % (p : Int) from rfl]
  simp only [em_add1]
 obtain ⟨R, hR⟩ := exE (tvA p r ⟨10, ia, ib, ic⟩)
 rw [<- hR] at HE ⊢
 clear hR
 have HC0 := hid (fun W h => add_any p b (zat r 1) (2 : Int) W h3 h4 h i1.1 i1.2 (show I64 2 by unfold I64; decide).1 (show I64 2 by unfold I64; decide).2)
 have HC1 := hid (fun W h => add_any p b ((((zat r 1) + (2 : Int)) % (p : Int))) ib W h3 h4 h (HEM.out _).1 (HEM.out _).2 hib.1 hib.2)
 clear i1
 clear HEM H hV
 generalize (((((zat r 1) + (2 : Int)) % (p : Int)) + ib) % (p : Int)) = t2 at *
 generalize (((zat r 1) + (2 : Int)) % (p : Int)) = t1 at *
 generalize zat r 1 = x1 at *
 generalize r.length = lr at *
 generalize L.length = nL at *
 go_enter Tryz.func138, Tryz.ntmps138
 go_wp2_with fail
 rw [<- hW0]
 clear hW0
 go_wp2_with fail
 go_quiet (first
  | (go_at_call 92; first | with_reducible exact Calls.quiet_of_same (HC0.out _ (QP.out _)) | with_reducible exact Calls.quiet_of_same (HC1.out _ (QP.out _))))
 go_wp2_with fail
 go_ret
 exact ⟨by have h := HE.out; subst h; rfl, below_drewN HB0.out _⟩
theorem vap_x (p b V : Nat) (L : List InsZ) (size out : Int) (r n : List Int) (aL : Option Addr) (cL : Nat) (ar : Option Addr) (cr : Nat) (an : Option Addr) (cn : Nat) (w : World) (H : VF p L size out r n) (hV : VW p b V L size out r n aL cL ar cr an cn w) (k : Nat) (ia ib ic : Int) (hi : k < 281474976710656 /\ I64 ia /\ I64 ib /\ I64 ic) (op : Int) (hno : op ≠ 10)  :
  Calls Tryz.prog 138 #[.pointer (some ⟨V, 0, none⟩), .int .i64 (k : Int), .agg #[.int .i64 op, .int .i64 ia, .int .i64 ib, .int .i64 ic]] w fun e w' => e = .returned (.int .i64 (tvA p r ⟨op, ia, ib, ic⟩)) /\ Below w.heap.size w w' := by
 have h3 := H.h3
 have h4 := H.h4
 obtain ⟨hk, hia, hib, hic⟩ := hi
 have HEM := hemL H
 obtain ⟨W0, hW0⟩ := exE (w.alloc (.cells #[.int .i64 op, .int .i64 ia, .int .i64 ib, .int .i64 ic] 180))
 have hb0 := blA hW0
 have hs0 := haA hW0
 have k0 := clA 0 hs0 rfl
 have k1 := clA 1 hs0 rfl
 have k2 := clA 2 hs0 rfl
 have k3 := clA 3 hs0 rfl
 replace hV := hV.below hb0
 have HB0 := hid hb0
 clear hs0 hb0
 obtain ⟨c0, c1, c2, c3, c4, c5⟩ := hV.cells
 have hpc := hV.fld
 have QP := qpL hpc
 obtain ⟨br, orr, har, hrw⟩ := hV.rowAt H.hr
 subst har
 have r1 := hrw 1 (by omega)
 have i1 := H.fr 1
 have l1 := llL H 1
 clear hrw
 have q10 : (op == 10) = false := by rw [beq_eq_false_iff_ne]; omega
 have HE : Hid (tvA p r ⟨op, ia, ib, ic⟩ = (zat r 1)) := by unfold Hid; simp [tvA, hno]
 obtain ⟨R, hR⟩ := exE (tvA p r ⟨op, ia, ib, ic⟩)
 rw [<- hR] at HE ⊢
 clear hR
 clear i1
 clear HEM H hV
 generalize zat r 1 = x1 at *
 generalize r.length = lr at *
 generalize L.length = nL at *
 subst hW0
 go_enter Tryz.func138, Tryz.ntmps138
 go_wp2_with fail
 go_ret
 exact ⟨by have h := HE.out; subst h; rfl, HB0.out⟩
theorem vrv_11 (p b V : Nat) (L : List InsZ) (size out : Int) (r n : List Int) (aL : Option Addr) (cL : Nat) (ar : Option Addr) (cr : Nat) (an : Option Addr) (cn : Nat) (w : World) (H : VF p L size out r n) (hV : VW p b V L size out r n aL cL ar cr an cn w) (k : Nat) (ia ib ic : Int) (hi : k < 281474976710656 /\ I64 ia /\ I64 ib /\ I64 ic)  :
  Calls Tryz.prog 139 #[.pointer (some ⟨V, 0, none⟩), .int .i64 (k : Int), .agg #[.int .i64 11, .int .i64 ia, .int .i64 ib, .int .i64 ic]] w fun e w' => e = .returned (.int .i64 (tvR r ⟨11, ia, ib, ic⟩)) /\ Below w.heap.size w w' := by
 have h3 := H.h3
 have h4 := H.h4
 obtain ⟨hk, hia, hib, hic⟩ := hi
 have HEM := hemL H
 obtain ⟨W0, hW0⟩ := exE (w.alloc (.cells #[.int .i64 11, .int .i64 ia, .int .i64 ib, .int .i64 ic] 180))
 have hb0 := blA hW0
 have hs0 := haA hW0
 have k0 := clA 0 hs0 rfl
 have k1 := clA 1 hs0 rfl
 have k2 := clA 2 hs0 rfl
 have k3 := clA 3 hs0 rfl
 replace hV := hV.below hb0
 have HB0 := hid hb0
 clear hs0 hb0
 obtain ⟨c0, c1, c2, c3, c4, c5⟩ := hV.cells
 have hpc := hV.fld
 have QP := qpL hpc
 obtain ⟨br, orr, har, hrw⟩ := hV.rowAt H.hr
 subst har
 have r9 := hrw 9 (by omega)
 have i9 := H.fr 9
 have l9 := llL H 9
 clear hrw
 have HE : Hid (tvR r ⟨11, ia, ib, ic⟩ = (zat r 9)) := rfl
 obtain ⟨R, hR⟩ := exE (tvR r ⟨11, ia, ib, ic⟩)
 rw [<- hR] at HE ⊢
 clear hR
 clear i9
 clear HEM H hV
 generalize zat r 9 = x9 at *
 generalize r.length = lr at *
 generalize L.length = nL at *
 subst hW0
 go_enter Tryz.func139, Tryz.ntmps139
 go_wp2_with fail
 go_ret
 exact ⟨by have h := HE.out; subst h; rfl, HB0.out⟩
theorem vrv_x (p b V : Nat) (L : List InsZ) (size out : Int) (r n : List Int) (aL : Option Addr) (cL : Nat) (ar : Option Addr) (cr : Nat) (an : Option Addr) (cn : Nat) (w : World) (H : VF p L size out r n) (hV : VW p b V L size out r n aL cL ar cr an cn w) (k : Nat) (ia ib ic : Int) (hi : k < 281474976710656 /\ I64 ia /\ I64 ib /\ I64 ic) (op : Int) (hno : op ≠ 11)  :
  Calls Tryz.prog 139 #[.pointer (some ⟨V, 0, none⟩), .int .i64 (k : Int), .agg #[.int .i64 op, .int .i64 ia, .int .i64 ib, .int .i64 ic]] w fun e w' => e = .returned (.int .i64 (tvR r ⟨op, ia, ib, ic⟩)) /\ Below w.heap.size w w' := by
 have h3 := H.h3
 have h4 := H.h4
 obtain ⟨hk, hia, hib, hic⟩ := hi
 have HEM := hemL H
 obtain ⟨W0, hW0⟩ := exE (w.alloc (.cells #[.int .i64 op, .int .i64 ia, .int .i64 ib, .int .i64 ic] 180))
 have hb0 := blA hW0
 have hs0 := haA hW0
 have k0 := clA 0 hs0 rfl
 have k1 := clA 1 hs0 rfl
 have k2 := clA 2 hs0 rfl
 have k3 := clA 3 hs0 rfl
 replace hV := hV.below hb0
 have HB0 := hid hb0
 clear hs0 hb0
 obtain ⟨c0, c1, c2, c3, c4, c5⟩ := hV.cells
 have hpc := hV.fld
 have QP := qpL hpc
 obtain ⟨br, orr, har, hrw⟩ := hV.rowAt H.hr
 subst har
 have r2 := hrw 2 (by omega)
 have i2 := H.fr 2
 have l2 := llL H 2
 clear hrw
 have q11 : (op == 11) = false := by rw [beq_eq_false_iff_ne]; omega
 have HE : Hid (tvR r ⟨op, ia, ib, ic⟩ = (zat r 2)) := by unfold Hid; simp [tvR, hno]
 obtain ⟨R, hR⟩ := exE (tvR r ⟨op, ia, ib, ic⟩)
 rw [<- hR] at HE ⊢
 clear hR
 clear i2
 clear HEM H hV
 generalize zat r 2 = x2 at *
 generalize r.length = lr at *
 generalize L.length = nL at *
 subst hW0
 go_enter Tryz.func139, Tryz.ntmps139
 go_wp2_with fail
 go_ret
 exact ⟨by have h := HE.out; subst h; rfl, HB0.out⟩
theorem vhalts_0 (p b V : Nat) (L : List InsZ) (size out : Int) (r n : List Int) (aL : Option Addr) (cL : Nat) (ar : Option Addr) (cr : Nat) (an : Option Addr) (cn : Nat) (w : World) (H : VF p L size out r n) (hV : VW p b V L size out r n aL cL ar cr an cn w) (k : Nat) (ia ib ic : Int) (hi : k < 281474976710656 /\ I64 ia /\ I64 ib /\ I64 ic)  :
  Calls Tryz.prog 140 #[.pointer (some ⟨V, 0, none⟩), .int .i64 (k : Int), .agg #[.int .i64 0, .int .i64 ia, .int .i64 ib, .int .i64 ic]] w fun e w' => e = .returned (.int .i64 (tvH ⟨0, ia, ib, ic⟩)) /\ Below w.heap.size w w' := by
 have h3 := H.h3
 have h4 := H.h4
 obtain ⟨hk, hia, hib, hic⟩ := hi
 have HEM := hemL H
 obtain ⟨W0, hW0⟩ := exE (w.alloc (.cells #[.int .i64 0, .int .i64 ia, .int .i64 ib, .int .i64 ic] 180))
 have hb0 := blA hW0
 have hs0 := haA hW0
 have k0 := clA 0 hs0 rfl
 have k1 := clA 1 hs0 rfl
 have k2 := clA 2 hs0 rfl
 have k3 := clA 3 hs0 rfl
 replace hV := hV.below hb0
 have HB0 := hid hb0
 clear hs0 hb0
 obtain ⟨c0, c1, c2, c3, c4, c5⟩ := hV.cells
 have hpc := hV.fld
 have QP := qpL hpc
 have HE : Hid (tvH ⟨0, ia, ib, ic⟩ = 1) := rfl
 obtain ⟨R, hR⟩ := exE (tvH ⟨0, ia, ib, ic⟩)
 rw [<- hR] at HE ⊢
 clear hR
 clear HEM H hV
 generalize L.length = nL at *
 subst hW0
 go_enter Tryz.func140, Tryz.ntmps140
 go_wp2_with fail
 go_ret
 exact ⟨by have h := HE.out; subst h; rfl, HB0.out⟩
theorem vhalts_x (p b V : Nat) (L : List InsZ) (size out : Int) (r n : List Int) (aL : Option Addr) (cL : Nat) (ar : Option Addr) (cr : Nat) (an : Option Addr) (cn : Nat) (w : World) (H : VF p L size out r n) (hV : VW p b V L size out r n aL cL ar cr an cn w) (k : Nat) (ia ib ic : Int) (hi : k < 281474976710656 /\ I64 ia /\ I64 ib /\ I64 ic) (op : Int) (hno : op ≠ 0)  :
  Calls Tryz.prog 140 #[.pointer (some ⟨V, 0, none⟩), .int .i64 (k : Int), .agg #[.int .i64 op, .int .i64 ia, .int .i64 ib, .int .i64 ic]] w fun e w' => e = .returned (.int .i64 (tvH ⟨op, ia, ib, ic⟩)) /\ Below w.heap.size w w' := by
 have h3 := H.h3
 have h4 := H.h4
 obtain ⟨hk, hia, hib, hic⟩ := hi
 have HEM := hemL H
 obtain ⟨W0, hW0⟩ := exE (w.alloc (.cells #[.int .i64 op, .int .i64 ia, .int .i64 ib, .int .i64 ic] 180))
 have hb0 := blA hW0
 have hs0 := haA hW0
 have k0 := clA 0 hs0 rfl
 have k1 := clA 1 hs0 rfl
 have k2 := clA 2 hs0 rfl
 have k3 := clA 3 hs0 rfl
 replace hV := hV.below hb0
 have HB0 := hid hb0
 clear hs0 hb0
 obtain ⟨c0, c1, c2, c3, c4, c5⟩ := hV.cells
 have hpc := hV.fld
 have QP := qpL hpc
 have q0 : (op == 0) = false := by rw [beq_eq_false_iff_ne]; omega
 have HE : Hid (tvH ⟨op, ia, ib, ic⟩ = 0) := by unfold Hid; simp [tvH, hno]
 obtain ⟨R, hR⟩ := exE (tvH ⟨op, ia, ib, ic⟩)
 rw [<- hR] at HE ⊢
 clear hR
 clear HEM H hV
 generalize L.length = nL at *
 subst hW0
 go_enter Tryz.func140, Tryz.ntmps140
 go_wp2_with fail
 go_ret
 exact ⟨by have h := HE.out; subst h; rfl, HB0.out⟩
theorem vonce_any (p b V : Nat) (L : List InsZ) (size out : Int) (r n : List Int) (aL : Option Addr) (cL : Nat) (ar : Option Addr) (cr : Nat) (an : Option Addr) (cn : Nat) (w : World) (H : VF p L size out r n) (hV : VW p b V L size out r n aL cL ar cr an cn w) (k : Nat) (ia ib ic : Int) (hi : k < 281474976710656 /\ I64 ia /\ I64 ib /\ I64 ic) (op : Int)  :
  Calls Tryz.prog 129 #[.pointer (some ⟨V, 0, none⟩), .int .i64 (k : Int), .agg #[.int .i64 op, .int .i64 ia, .int .i64 ib, .int .i64 ic]] w fun e w' => e = .returned (.int .i64 ((1 : Int))) /\ Below w.heap.size w w' := by
 have h3 := H.h3
 have h4 := H.h4
 obtain ⟨hk, hia, hib, hic⟩ := hi
 have HEM := hemL H
 obtain ⟨W0, hW0⟩ := exE (w.alloc (.cells #[.int .i64 op, .int .i64 ia, .int .i64 ib, .int .i64 ic] 180))
 have hb0 := blA hW0
 have hs0 := haA hW0
 have k0 := clA 0 hs0 rfl
 have k1 := clA 1 hs0 rfl
 have k2 := clA 2 hs0 rfl
 have k3 := clA 3 hs0 rfl
 replace hV := hV.below hb0
 have HB0 := hid hb0
 clear hs0 hb0
 obtain ⟨c0, c1, c2, c3, c4, c5⟩ := hV.cells
 have hpc := hV.fld
 have QP := qpL hpc
 clear HEM H hV
 generalize L.length = nL at *
 subst hW0
 go_enter Tryz.func129, Tryz.ntmps129
 go_wp2_with fail
 go_ret
 exact ⟨rfl, HB0.out⟩
theorem vnumber_any (p b V : Nat) (L : List InsZ) (size out : Int) (r n : List Int) (aL : Option Addr) (cL : Nat) (ar : Option Addr) (cr : Nat) (an : Option Addr) (cn : Nat) (w : World) (H : VF p L size out r n) (hV : VW p b V L size out r n aL cL ar cr an cn w) (k : Nat) (ia ib ic : Int) (hi : k < 281474976710656 /\ I64 ia /\ I64 ib /\ I64 ic) (op : Int)  :
  Calls Tryz.prog 135 #[.pointer (some ⟨V, 0, none⟩), .int .i64 (k : Int), .agg #[.int .i64 op, .int .i64 ia, .int .i64 ib, .int .i64 ic]] w fun e w' => e = .returned (.int .i64 ((k : Int))) /\ Below w.heap.size w w' := by
 have h3 := H.h3
 have h4 := H.h4
 obtain ⟨hk, hia, hib, hic⟩ := hi
 have HEM := hemL H
 obtain ⟨W0, hW0⟩ := exE (w.alloc (.cells #[.int .i64 op, .int .i64 ia, .int .i64 ib, .int .i64 ic] 180))
 have hb0 := blA hW0
 have hs0 := haA hW0
 have k0 := clA 0 hs0 rfl
 have k1 := clA 1 hs0 rfl
 have k2 := clA 2 hs0 rfl
 have k3 := clA 3 hs0 rfl
 replace hV := hV.below hb0
 have HB0 := hid hb0
 clear hs0 hb0
 obtain ⟨c0, c1, c2, c3, c4, c5⟩ := hV.cells
 have hpc := hV.fld
 have QP := qpL hpc
 clear HEM H hV
 generalize L.length = nL at *
 subst hW0
 go_enter Tryz.func135, Tryz.ntmps135
 go_wp2_with fail
 go_ret
 exact ⟨rfl, HB0.out⟩
end Go.Proofs.YtjlngcmkgkiplaaGreatDoor
