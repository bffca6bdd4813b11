
import Derived.Test.YtjlngcmkgkiplaaGreatDoorWcAT
set_option maxRecDepth 1000000
set_option maxHeartbeats 8000000
namespace Go.Proofs.YtjlngcmkgkiplaaGreatDoor
open Go.RowKit Go.Maps
theorem vends_any (p b V : Nat) (L : List InsZ) (size out : Int) (r n : List Int) (aL : Option Addr) (cL : Nat) (ar : Option Addr) (cr : Nat) (an : Option Addr) (cn : Nat) (w : World) (H : VF p L size out r n) (hV : VW p b V L size out r n aL cL ar cr an cn w) :
  Calls Tryz.prog 118 #[.pointer (some ⟨V, 0, none⟩)] w (NewL [(zat r 20 - 1) % (p : Int), (zat r 0 - 1) % (p : Int), (zat r 1 - 1 - size) % (p : Int), zat r 2 % (p : Int), zat r 12 % (p : Int), zat r 16 % (p : Int), (smt p L r (fun _ => tvH) - 1) % (p : Int), (zat r 7 - out) % (p : Int)] w) := by
 have hmx : Tryz.prog.follows .mixedOrders = true := by kernel_rfl
 have h3 := H.h3
 have h4 := H.h4
 have e := em_I64 h3 h4
 have es := fun s f => (show I64 (smt p L s f) by have := smt_bd h3 L s f; unfold I64; omega)
 obtain ⟨br, orr, har, hrw⟩ := hV.rowAt H.hr
 subst har
 obtain ⟨bn, onn, han, hnw⟩ := hV.nxtAt H.hn
 subst han
 obtain ⟨R, hR⟩ := exE (NewL [(zat r 20 - 1) % (p : Int), (zat r 0 - 1) % (p : Int), (zat r 1 - 1 - size) % (p : Int), zat r 2 % (p : Int), zat r 12 % (p : Int), zat r 16 % (p : Int), (smt p L r (fun _ => tvH) - 1) % (p : Int), (zat r 7 - out) % (p : Int)] w)
 rw [<- hR]
 have HRR : Hid (∀ (g : Nat) (e : Ending) (w' : World), Below w.heap.size w w' -> w.heap.size <= g -> w'.heap[g]? = some (.cells #[.int .i64 ((zat r 20 - 1) % (p : Int)), .int .i64 ((zat r 0 - 1) % (p : Int)), .int .i64 ((zat r 1 - 1 - size) % (p : Int)), .int .i64 (zat r 2 % (p : Int)), .int .i64 (zat r 12 % (p : Int)), .int .i64 (zat r 16 % (p : Int)), .int .i64 ((smt p L r (fun _ => tvH) - 1) % (p : Int)), .int .i64 ((zat r 7 - out) % (p : Int))] 3 (0, 0)) -> e = .returned (.slice (some ⟨g, 0, none⟩) 8 8) -> R e w') := fun g e w' h1 h2 h4 h5 => by
  rw [hR, h5]
  exact ⟨g, rfl, h2, h4, h1⟩
 have hh1 := H.h1
 have HX : Hid (∀ W, Below w.heap.size w W -> (W.cell? ⟨V, 0, none⟩ = some (.pointer (some ⟨b, 0, none⟩)) /\ W.cell? ⟨V, 1, none⟩ = some (.int .i64 size) /\ W.cell? ⟨V, 3, none⟩ = some (.int .i64 out) /\ W.cell? ⟨V, 4, none⟩ = some (.slice (some ⟨br, orr, none⟩) r.length cr) /\ W.cell? ⟨V, 5, none⟩ = some (.slice (some ⟨bn, onn, none⟩) n.length cn) /\ W.cell? ⟨br, orr, none⟩ = some (.int .i64 (zat r 0)) /\ W.cell? ⟨br, orr + 1, none⟩ = some (.int .i64 (zat r 1)) /\ W.cell? ⟨br, orr + 2, none⟩ = some (.int .i64 (zat r 2)) /\ W.cell? ⟨br, orr + 7, none⟩ = some (.int .i64 (zat r 7)) /\ W.cell? ⟨br, orr + 12, none⟩ = some (.int .i64 (zat r 12)) /\ W.cell? ⟨br, orr + 16, none⟩ = some (.int .i64 (zat r 16)) /\ W.cell? ⟨br, orr + 20, none⟩ = some (.int .i64 (zat r 20)))) := fun W h => by
  have hc := (hV.below h).cells
  exact ⟨hc.1, hc.2.1, hc.2.2.2.1, hc.2.2.2.2.1, hc.2.2.2.2.2, (h.cell (p := ⟨br, orr, none⟩) (World.block_lt_of_cell? _ _ (hrw 0 (by omega)))).trans (hrw 0 (by omega)), (h.cell (p := ⟨br, orr + 1, none⟩) (World.block_lt_of_cell? _ _ (hrw 1 (by omega)))).trans (hrw 1 (by omega)), (h.cell (p := ⟨br, orr + 2, none⟩) (World.block_lt_of_cell? _ _ (hrw 2 (by omega)))).trans (hrw 2 (by omega)), (h.cell (p := ⟨br, orr + 7, none⟩) (World.block_lt_of_cell? _ _ (hrw 7 (by omega)))).trans (hrw 7 (by omega)), (h.cell (p := ⟨br, orr + 12, none⟩) (World.block_lt_of_cell? _ _ (hrw 12 (by omega)))).trans (hrw 12 (by omega)), (h.cell (p := ⟨br, orr + 16, none⟩) (World.block_lt_of_cell? _ _ (hrw 16 (by omega)))).trans (hrw 16 (by omega)), (h.cell (p := ⟨br, orr + 20, none⟩) (World.block_lt_of_cell? _ _ (hrw 20 (by omega)))).trans (hrw 20 (by omega))⟩
 have l0 := llL H 0
 have l0' := llN H 0
 have l1 := llL H 1
 have l1' := llN H 1
 have l2 := llL H 2
 have l7 := llL H 7
 have l12 := llL H 12
 have l16 := llL H 16
 have l20 := llL H 20
 have HC0 : Hid (∀ W, Below w.heap.size w W -> Calls Tryz.prog 52 #[.pointer (some ⟨b, 0, none⟩), .int .i64 (zat r 20), .int .i64 (1)] W fun e w' => e = .returned (.int .i64 ((zat r 20 - 1) % (p : Int))) /\ Below w.heap.size w w' /\ Below W.heap.size W w') := fun W h => (sub_any p b _ _ W h3 h4 (hV.below h).fld (H.fr 20).1 (H.fr 20).2 (show I64 1 from I64_small 1).1 (show I64 1 from I64_small 1).2).mono (fun _ _ hh => ⟨hh.1, hh.2 ▸ h, hh.2 ▸ Below.refl _ _⟩)
 have HC1 : Hid (∀ W, Below w.heap.size w W -> Calls Tryz.prog 52 #[.pointer (some ⟨b, 0, none⟩), .int .i64 (zat r 0), .int .i64 (1)] W fun e w' => e = .returned (.int .i64 ((zat r 0 - 1) % (p : Int))) /\ Below w.heap.size w w' /\ Below W.heap.size W w') := fun W h => (sub_any p b _ _ W h3 h4 (hV.below h).fld (H.fr 0).1 (H.fr 0).2 (show I64 1 from I64_small 1).1 (show I64 1 from I64_small 1).2).mono (fun _ _ hh => ⟨hh.1, hh.2 ▸ h, hh.2 ▸ Below.refl _ _⟩)
 have HC2 : Hid (∀ W, Below w.heap.size w W -> Calls Tryz.prog 52 #[.pointer (some ⟨b, 0, none⟩), .int .i64 (zat r 1), .int .i64 (1)] W fun e w' => e = .returned (.int .i64 ((zat r 1 - 1) % (p : Int))) /\ Below w.heap.size w w' /\ Below W.heap.size W w') := fun W h => (sub_any p b _ _ W h3 h4 (hV.below h).fld (H.fr 1).1 (H.fr 1).2 (show I64 1 from I64_small 1).1 (show I64 1 from I64_small 1).2).mono (fun _ _ hh => ⟨hh.1, hh.2 ▸ h, hh.2 ▸ Below.refl _ _⟩)
 have HC3 : Hid (∀ W, Below w.heap.size w W -> Calls Tryz.prog 52 #[.pointer (some ⟨b, 0, none⟩), .int .i64 ((zat r 1 - 1) % (p : Int)), .int .i64 (size)] W fun e w' => e = .returned (.int .i64 ((((zat r 1 - 1) % (p : Int)) - size) % (p : Int))) /\ Below w.heap.size w w' /\ Below W.heap.size W w') := fun W h => (sub_any p b _ _ W h3 h4 (hV.below h).fld (e _).1 (e _).2 H.hsz.1 H.hsz.2).mono (fun _ _ hh => ⟨hh.1, hh.2 ▸ h, hh.2 ▸ Below.refl _ _⟩)
 have HC4 : Hid (∀ W, Below w.heap.size w W -> Calls Tryz.prog 79 #[.pointer (some ⟨b, 0, none⟩), .int .i64 (zat r 2)] W fun e w' => e = .returned (.int .i64 (zat r 2 % (p : Int))) /\ Below w.heap.size w w' /\ Below W.heap.size W w') := fun W h => (of_any p b _ W h3 h4 (hV.below h).fld (H.fr 2).1 (H.fr 2).2).mono (fun _ _ hh => ⟨hh.1, hh.2 ▸ h, hh.2 ▸ Below.refl _ _⟩)
 have HC5 : Hid (∀ W, Below w.heap.size w W -> Calls Tryz.prog 79 #[.pointer (some ⟨b, 0, none⟩), .int .i64 (zat r 12)] W fun e w' => e = .returned (.int .i64 (zat r 12 % (p : Int))) /\ Below w.heap.size w w' /\ Below W.heap.size W w') := fun W h => (of_any p b _ W h3 h4 (hV.below h).fld (H.fr 12).1 (H.fr 12).2).mono (fun _ _ hh => ⟨hh.1, hh.2 ▸ h, hh.2 ▸ Below.refl _ _⟩)
 have HC6 : Hid (∀ W, Below w.heap.size w W -> Calls Tryz.prog 79 #[.pointer (some ⟨b, 0, none⟩), .int .i64 (zat r 16)] W fun e w' => e = .returned (.int .i64 (zat r 16 % (p : Int))) /\ Below w.heap.size w w' /\ Below W.heap.size W w') := fun W h => (of_any p b _ W h3 h4 (hV.below h).fld (H.fr 16).1 (H.fr 16).2).mono (fun _ _ hh => ⟨hh.1, hh.2 ▸ h, hh.2 ▸ Below.refl _ _⟩)
 have HC7 : Hid (∀ W, Below w.heap.size w W -> Calls Tryz.prog 128 #[.pointer (some ⟨V, 0, none⟩), .slice (some ⟨br, orr, none⟩) r.length cr, .func (.func 140) #[.pointer (some ⟨V, 0, none⟩)] #[]] W fun e w' => e = .returned (.int .i64 (smt p L r (fun _ => tvH))) /\ Below w.heap.size w w' /\ Below W.heap.size W w') := fun W h => (vsum_any p b V L size out r n aL cL (some ⟨br, orr, none⟩) cr (some ⟨bn, onn, none⟩) cn W H (hV.below h) r (some ⟨br, orr, none⟩) cr (hV.below h).row H.hr H.fr _ _ (tm_halts p b V L size out r n aL cL (some ⟨br, orr, none⟩) cr (some ⟨bn, onn, none⟩) cn W H (hV.below h))).mono (fun _ _ hh => ⟨hh.1, h.trans (hh.2.mono h.size), hh.2⟩)
 have HC8 : Hid (∀ W, Below w.heap.size w W -> Calls Tryz.prog 52 #[.pointer (some ⟨b, 0, none⟩), .int .i64 (smt p L r (fun _ => tvH)), .int .i64 (1)] W fun e w' => e = .returned (.int .i64 (((smt p L r (fun _ => tvH)) - 1) % (p : Int))) /\ Below w.heap.size w w' /\ Below W.heap.size W w') := fun W h => (sub_any p b _ _ W h3 h4 (hV.below h).fld (es _ _).1 (es _ _).2 (show I64 1 from I64_small 1).1 (show I64 1 from I64_small 1).2).mono (fun _ _ hh => ⟨hh.1, hh.2 ▸ h, hh.2 ▸ Below.refl _ _⟩)
 have HC9 : Hid (∀ W, Below w.heap.size w W -> Calls Tryz.prog 52 #[.pointer (some ⟨b, 0, none⟩), .int .i64 (zat r 7), .int .i64 (out)] W fun e w' => e = .returned (.int .i64 ((zat r 7 - out) % (p : Int))) /\ Below w.heap.size w w' /\ Below W.heap.size W w') := fun W h => (sub_any p b _ _ W h3 h4 (hV.below h).fld (H.fr 7).1 (H.fr 7).2 H.hout.1 H.hout.2).mono (fun _ _ hh => ⟨hh.1, hh.2 ▸ h, hh.2 ▸ Below.refl _ _⟩)
 rw [show (zat r 1 - 1 - size) % (p : Int) = (((zat r 1 - 1) % (p : Int)) - size) % (p : Int) from (em_sub1 _ _ _).symm] at HRR
 clear hR H hV hrw hnw e es hh1
 generalize (zat r 7 - out) % (p : Int) = t7 at *
 generalize ((smt p L r (fun _ => tvH)) - 1) % (p : Int) = t6 at *
 generalize smt p L r (fun _ => tvH) = s6 at *
 generalize zat r 16 % (p : Int) = t5 at *
 generalize zat r 12 % (p : Int) = t4 at *
 generalize zat r 2 % (p : Int) = t3 at *
 generalize (((zat r 1 - 1) % (p : Int)) - size) % (p : Int) = t2 at *
 generalize (zat r 1 - 1) % (p : Int) = u2 at *
 generalize (zat r 0 - 1) % (p : Int) = t1 at *
 generalize (zat r 20 - 1) % (p : Int) = t0 at *
 generalize zat r 0 = x0 at *
 generalize zat r 1 = x1 at *
 generalize zat r 2 = x2 at *
 generalize zat r 7 = x7 at *
 generalize zat r 12 = x12 at *
 generalize zat r 16 = x16 at *
 generalize zat r 20 = x20 at *
 generalize r.length = lr at *
 generalize n.length = ln at *
 have hdd : Below w.heap.size w w.drew := (Below.refl _ _).drew
 go_enter Tryz.func118, Tryz.ntmps118
 go_wp2_with fail
 refine wp_region_any hmx ?_
 obtain ⟨T, hT⟩ : ∃ T : Nat -> Nat -> Value, T = fun g => lkT [3, 4, 5, 6, 7, 8, 9, 10, 11, 12, 13, 14, 15, 16, 17, 18, 19, 20, 21, 22, 23, 24, 25, 26, 27, 28, 29, 30, 31, 32, 33, 34, 35, 36, 37, 38, 39, 40, 41, 42, 43, 44, 45, 46, 47, 48, 49, 50, 51, 52, 53, 54, 55, 56, 57, 58, 59, 60, 61, 62, 63, 64, 65, 66, 67, 68, 69, 70, 71, 72, 73, 74, 75, 76, 77, 78, 79, 80, 81, 82, 83, 84, 85, 86, 87, 88, 89, 90, 91, 92, 93, 94, 95, 96, 97, 98, 99, 100, 101, 102, 103, 104, 105, 106, 107, 2] [.pointer (some ⟨V, 0, none⟩), .pointer (some ⟨V, 0, none⟩), .pointer (some ⟨V, 0, none⟩), .pointer (some ⟨b, 0, none⟩), .pointer (some ⟨V, 0, none⟩), .pointer (some ⟨V, 0, none⟩), .pointer (some ⟨V, 4, none⟩), .slice (some ⟨br, orr, none⟩) lr cr, .pointer (some ⟨br, orr + 20, none⟩), .int .i64 x20, .int .i64 t0, .pointer (some ⟨V, 0, none⟩), .pointer (some ⟨V, 0, none⟩), .pointer (some ⟨V, 0, none⟩), .pointer (some ⟨b, 0, none⟩), .pointer (some ⟨V, 0, none⟩), .pointer (some ⟨V, 0, none⟩), .pointer (some ⟨V, 4, none⟩), .slice (some ⟨br, orr, none⟩) lr cr, .pointer (some ⟨br, orr, none⟩), .int .i64 x0, .int .i64 t1, .pointer (some ⟨V, 0, none⟩), .pointer (some ⟨V, 0, none⟩), .pointer (some ⟨V, 0, none⟩), .pointer (some ⟨b, 0, none⟩), .pointer (some ⟨V, 0, none⟩), .pointer (some ⟨V, 0, none⟩), .pointer (some ⟨V, 0, none⟩), .pointer (some ⟨b, 0, none⟩), .pointer (some ⟨V, 0, none⟩), .pointer (some ⟨V, 0, none⟩), .pointer (some ⟨V, 4, none⟩), .slice (some ⟨br, orr, none⟩) lr cr, .pointer (some ⟨br, orr + 1, none⟩), .int .i64 x1, .int .i64 u2, .pointer (some ⟨V, 0, none⟩), .pointer (some ⟨V, 0, none⟩), .pointer (some ⟨V, 1, none⟩), .pointer (some ⟨V, 1, none⟩), .int .i64 size, .int .i64 t2, .pointer (some ⟨V, 0, none⟩), .pointer (some ⟨V, 0, none⟩), .pointer (some ⟨V, 0, none⟩), .pointer (some ⟨b, 0, none⟩), .pointer (some ⟨V, 0, none⟩), .pointer (some ⟨V, 0, none⟩), .pointer (some ⟨V, 4, none⟩), .slice (some ⟨br, orr, none⟩) lr cr, .pointer (some ⟨br, orr + 2, none⟩), .int .i64 x2, .int .i64 t3, .pointer (some ⟨V, 0, none⟩), .pointer (some ⟨V, 0, none⟩), .pointer (some ⟨V, 0, none⟩), .pointer (some ⟨b, 0, none⟩), .pointer (some ⟨V, 0, none⟩), .pointer (some ⟨V, 0, none⟩), .pointer (some ⟨V, 4, none⟩), .slice (some ⟨br, orr, none⟩) lr cr, .pointer (some ⟨br, orr + 12, none⟩), .int .i64 x12, .int .i64 t4, .pointer (some ⟨V, 0, none⟩), .pointer (some ⟨V, 0, none⟩), .pointer (some ⟨V, 0, none⟩), .pointer (some ⟨b, 0, none⟩), .pointer (some ⟨V, 0, none⟩), .pointer (some ⟨V, 0, none⟩), .pointer (some ⟨V, 4, none⟩), .slice (some ⟨br, orr, none⟩) lr cr, .pointer (some ⟨br, orr + 16, none⟩), .int .i64 x16, .int .i64 t5, .pointer (some ⟨V, 0, none⟩), .pointer (some ⟨V, 0, none⟩), .pointer (some ⟨V, 0, none⟩), .pointer (some ⟨b, 0, none⟩), .pointer (some ⟨V, 0, none⟩), .pointer (some ⟨V, 0, none⟩), .pointer (some ⟨V, 0, none⟩), .pointer (some ⟨V, 4, none⟩), .slice (some ⟨br, orr, none⟩) lr cr, .pointer (some ⟨V, 0, none⟩), .func (.func 140) #[.pointer (some ⟨V, 0, none⟩)] #[], .int .i64 s6, .int .i64 t6, .pointer (some ⟨V, 0, none⟩), .pointer (some ⟨V, 0, none⟩), .pointer (some ⟨V, 0, none⟩), .pointer (some ⟨b, 0, none⟩), .pointer (some ⟨V, 0, none⟩), .pointer (some ⟨V, 0, none⟩), .pointer (some ⟨V, 4, none⟩), .slice (some ⟨br, orr, none⟩) lr cr, .pointer (some ⟨br, orr + 7, none⟩), .int .i64 x7, .pointer (some ⟨V, 0, none⟩), .pointer (some ⟨V, 0, none⟩), .pointer (some ⟨V, 3, none⟩), .int .i64 out, .int .i64 t7, .slice (some ⟨g, 0, none⟩) 8 8, .slice (some ⟨g, 0, none⟩) 8 8] #[.pointer (some ⟨V, 0, none⟩), undef, .slice none 0 0, undef, undef, undef, undef, undef, undef, undef, undef, undef, undef, undef, undef, undef, undef, undef, undef, undef, undef, undef, undef, undef, undef, undef, undef, undef, undef, undef, undef, undef, undef, undef, undef, undef, undef, undef, undef, undef, undef, undef, undef, undef, undef, undef, undef, undef, undef, undef, undef, undef, undef, undef, undef, undef, undef, undef, undef, undef, undef, undef, undef, undef, undef, undef, undef, undef, undef, undef, undef, undef, undef, undef, undef, undef, undef, undef, undef, undef, undef, undef, undef, undef, undef, undef, undef, undef, undef, undef, undef, undef, undef, undef, undef, undef, undef, undef, undef, undef, undef, undef, undef, undef, undef, undef, undef, undef] := ⟨_, rfl⟩
 have q0 : ∀ g, T g 0 = .pointer (some ⟨V, 0, none⟩) := fun g => by rw [hT]; kernel_rfl
 have q2 : ∀ g, T g 2 = .slice (some ⟨g, 0, none⟩) 8 8 := fun g => by rw [hT]; kernel_rfl
 have q3 : ∀ g, T g 3 = .pointer (some ⟨V, 0, none⟩) := fun g => by rw [hT]; kernel_rfl
 have q4 : ∀ g, T g 4 = .pointer (some ⟨V, 0, none⟩) := fun g => by rw [hT]; kernel_rfl
 have q5 : ∀ g, T g 5 = .pointer (some ⟨V, 0, none⟩) := fun g => by rw [hT]; kernel_rfl
 have q6 : ∀ g, T g 6 = .pointer (some ⟨b, 0, none⟩) := fun g => by rw [hT]; kernel_rfl
 have q7 : ∀ g, T g 7 = .pointer (some ⟨V, 0, none⟩) := fun g => by rw [hT]; kernel_rfl
 have q8 : ∀ g, T g 8 = .pointer (some ⟨V, 0, none⟩) := fun g => by rw [hT]; kernel_rfl
 have q9 : ∀ g, T g 9 = .pointer (some ⟨V, 4, none⟩) := fun g => by rw [hT]; kernel_rfl
 have q10 : ∀ g, T g 10 = .slice (some ⟨br, orr, none⟩) lr cr := fun g => by rw [hT]; kernel_rfl
 have q11 : ∀ g, T g 11 = .pointer (some ⟨br, orr + 20, none⟩) := fun g => by rw [hT]; kernel_rfl
 have q12 : ∀ g, T g 12 = .int .i64 x20 := fun g => by rw [hT]; kernel_rfl
 have q13 : ∀ g, T g 13 = .int .i64 t0 := fun g => by rw [hT]; kernel_rfl
 have q14 : ∀ g, T g 14 = .pointer (some ⟨V, 0, none⟩) := fun g => by rw [hT]; kernel_rfl
 have q15 : ∀ g, T g 15 = .pointer (some ⟨V, 0, none⟩) := fun g => by rw [hT]; kernel_rfl
 have q16 : ∀ g, T g 16 = .pointer (some ⟨V, 0, none⟩) := fun g => by rw [hT]; kernel_rfl
 have q17 : ∀ g, T g 17 = .pointer (some ⟨b, 0, none⟩) := fun g => by rw [hT]; kernel_rfl
 have q18 : ∀ g, T g 18 = .pointer (some ⟨V, 0, none⟩) := fun g => by rw [hT]; kernel_rfl
 have q19 : ∀ g, T g 19 = .pointer (some ⟨V, 0, none⟩) := fun g => by rw [hT]; kernel_rfl
 have q20 : ∀ g, T g 20 = .pointer (some ⟨V, 4, none⟩) := fun g => by rw [hT]; kernel_rfl
 have q21 : ∀ g, T g 21 = .slice (some ⟨br, orr, none⟩) lr cr := fun g => by rw [hT]; kernel_rfl
 have q22 : ∀ g, T g 22 = .pointer (some ⟨br, orr, none⟩) := fun g => by rw [hT]; kernel_rfl
 have q23 : ∀ g, T g 23 = .int .i64 x0 := fun g => by rw [hT]; kernel_rfl
 have q24 : ∀ g, T g 24 = .int .i64 t1 := fun g => by rw [hT]; kernel_rfl
 have q25 : ∀ g, T g 25 = .pointer (some ⟨V, 0, none⟩) := fun g => by rw [hT]; kernel_rfl
 have q26 : ∀ g, T g 26 = .pointer (some ⟨V, 0, none⟩) := fun g => by rw [hT]; kernel_rfl
 have q27 : ∀ g, T g 27 = .pointer (some ⟨V, 0, none⟩) := fun g => by rw [hT]; kernel_rfl
 have q28 : ∀ g, T g 28 = .pointer (some ⟨b, 0, none⟩) := fun g => by rw [hT]; kernel_rfl
 have q29 : ∀ g, T g 29 = .pointer (some ⟨V, 0, none⟩) := fun g => by rw [hT]; kernel_rfl
 have q30 : ∀ g, T g 30 = .pointer (some ⟨V, 0, none⟩) := fun g => by rw [hT]; kernel_rfl
 have q31 : ∀ g, T g 31 = .pointer (some ⟨V, 0, none⟩) := fun g => by rw [hT]; kernel_rfl
 have q32 : ∀ g, T g 32 = .pointer (some ⟨b, 0, none⟩) := fun g => by rw [hT]; kernel_rfl
 have q33 : ∀ g, T g 33 = .pointer (some ⟨V, 0, none⟩) := fun g => by rw [hT]; kernel_rfl
 have q34 : ∀ g, T g 34 = .pointer (some ⟨V, 0, none⟩) := fun g => by rw [hT]; kernel_rfl
 have q35 : ∀ g, T g 35 = .pointer (some ⟨V, 4, none⟩) := fun g => by rw [hT]; kernel_rfl
 have q36 : ∀ g, T g 36 = .slice (some ⟨br, orr, none⟩) lr cr := fun g => by rw [hT]; kernel_rfl
 have q37 : ∀ g, T g 37 = .pointer (some ⟨br, orr + 1, none⟩) := fun g => by rw [hT]; kernel_rfl
 have q38 : ∀ g, T g 38 = .int .i64 x1 := fun g => by rw [hT]; kernel_rfl
 have q39 : ∀ g, T g 39 = .int .i64 u2 := fun g => by rw [hT]; kernel_rfl
 have q40 : ∀ g, T g 40 = .pointer (some ⟨V, 0, none⟩) := fun g => by rw [hT]; kernel_rfl
 have q41 : ∀ g, T g 41 = .pointer (some ⟨V, 0, none⟩) := fun g => by rw [hT]; kernel_rfl
 have q42 : ∀ g, T g 42 = .pointer (some ⟨V, 1, none⟩) := fun g => by rw [hT]; kernel_rfl
 have q43 : ∀ g, T g 43 = .pointer (some ⟨V, 1, none⟩) := fun g => by rw [hT]; kernel_rfl
 have q44 : ∀ g, T g 44 = .int .i64 size := fun g => by rw [hT]; kernel_rfl
 have q45 : ∀ g, T g 45 = .int .i64 t2 := fun g => by rw [hT]; kernel_rfl
 have q46 : ∀ g, T g 46 = .pointer (some ⟨V, 0, none⟩) := fun g => by rw [hT]; kernel_rfl
 have q47 : ∀ g, T g 47 = .pointer (some ⟨V, 0, none⟩) := fun g => by rw [hT]; kernel_rfl
 have q48 : ∀ g, T g 48 = .pointer (some ⟨V, 0, none⟩) := fun g => by rw [hT]; kernel_rfl
 have q49 : ∀ g, T g 49 = .pointer (some ⟨b, 0, none⟩) := fun g => by rw [hT]; kernel_rfl
 have q50 : ∀ g, T g 50 = .pointer (some ⟨V, 0, none⟩) := fun g => by rw [hT]; kernel_rfl
 have q51 : ∀ g, T g 51 = .pointer (some ⟨V, 0, none⟩) := fun g => by rw [hT]; kernel_rfl
 have q52 : ∀ g, T g 52 = .pointer (some ⟨V, 4, none⟩) := fun g => by rw [hT]; kernel_rfl
 have q53 : ∀ g, T g 53 = .slice (some ⟨br, orr, none⟩) lr cr := fun g => by rw [hT]; kernel_rfl
 have q54 : ∀ g, T g 54 = .pointer (some ⟨br, orr + 2, none⟩) := fun g => by rw [hT]; kernel_rfl
 have q55 : ∀ g, T g 55 = .int .i64 x2 := fun g => by rw [hT]; kernel_rfl
 have q56 : ∀ g, T g 56 = .int .i64 t3 := fun g => by rw [hT]; kernel_rfl
 have q57 : ∀ g, T g 57 = .pointer (some ⟨V, 0, none⟩) := fun g => by rw [hT]; kernel_rfl
 have q58 : ∀ g, T g 58 = .pointer (some ⟨V, 0, none⟩) := fun g => by rw [hT]; kernel_rfl
 have q59 : ∀ g, T g 59 = .pointer (some ⟨V, 0, none⟩) := fun g => by rw [hT]; kernel_rfl
 have q60 : ∀ g, T g 60 = .pointer (some ⟨b, 0, none⟩) := fun g => by rw [hT]; kernel_rfl
 have q61 : ∀ g, T g 61 = .pointer (some ⟨V, 0, none⟩) := fun g => by rw [hT]; kernel_rfl
 have q62 : ∀ g, T g 62 = .pointer (some ⟨V, 0, none⟩) := fun g => by rw [hT]; kernel_rfl
 have q63 : ∀ g, T g 63 = .pointer (some ⟨V, 4, none⟩) := fun g => by rw [hT]; kernel_rfl
 have q64 : ∀ g, T g 64 = .slice (some ⟨br, orr, none⟩) lr cr := fun g => by rw [hT]; kernel_rfl
 have q65 : ∀ g, T g 65 = .pointer (some ⟨br, orr + 12, none⟩) := fun g => by rw [hT]; kernel_rfl
 have q66 : ∀ g, T g 66 = .int .i64 x12 := fun g => by rw [hT]; kernel_rfl
 have q67 : ∀ g, T g 67 = .int .i64 t4 := fun g => by rw [hT]; kernel_rfl
 have q68 : ∀ g, T g 68 = .pointer (some ⟨V, 0, none⟩) := fun g => by rw [hT]; kernel_rfl
 have q69 : ∀ g, T g 69 = .pointer (some ⟨V, 0, none⟩) := fun g => by rw [hT]; kernel_rfl
 have q70 : ∀ g, T g 70 = .pointer (some ⟨V, 0, none⟩) := fun g => by rw [hT]; kernel_rfl
 have q71 : ∀ g, T g 71 = .pointer (some ⟨b, 0, none⟩) := fun g => by rw [hT]; kernel_rfl
 have q72 : ∀ g, T g 72 = .pointer (some ⟨V, 0, none⟩) := fun g => by rw [hT]; kernel_rfl
 have q73 : ∀ g, T g 73 = .pointer (some ⟨V, 0, none⟩) := fun g => by rw [hT]; kernel_rfl
 have q74 : ∀ g, T g 74 = .pointer (some ⟨V, 4, none⟩) := fun g => by rw [hT]; kernel_rfl
 have q75 : ∀ g, T g 75 = .slice (some ⟨br, orr, none⟩) lr cr := fun g => by rw [hT]; kernel_rfl
 have q76 : ∀ g, T g 76 = .pointer (some ⟨br, orr + 16, none⟩) := fun g => by rw [hT]; kernel_rfl
 have q77 : ∀ g, T g 77 = .int .i64 x16 := fun g => by rw [hT]; kernel_rfl
 have q78 : ∀ g, T g 78 = .int .i64 t5 := fun g => by rw [hT]; kernel_rfl
 have q79 : ∀ g, T g 79 = .pointer (some ⟨V, 0, none⟩) := fun g => by rw [hT]; kernel_rfl
 have q80 : ∀ g, T g 80 = .pointer (some ⟨V, 0, none⟩) := fun g => by rw [hT]; kernel_rfl
 have q81 : ∀ g, T g 81 = .pointer (some ⟨V, 0, none⟩) := fun g => by rw [hT]; kernel_rfl
 have q82 : ∀ g, T g 82 = .pointer (some ⟨b, 0, none⟩) := fun g => by rw [hT]; kernel_rfl
 have q83 : ∀ g, T g 83 = .pointer (some ⟨V, 0, none⟩) := fun g => by rw [hT]; kernel_rfl
 have q84 : ∀ g, T g 84 = .pointer (some ⟨V, 0, none⟩) := fun g => by rw [hT]; kernel_rfl
 have q85 : ∀ g, T g 85 = .pointer (some ⟨V, 0, none⟩) := fun g => by rw [hT]; kernel_rfl
 have q86 : ∀ g, T g 86 = .pointer (some ⟨V, 4, none⟩) := fun g => by rw [hT]; kernel_rfl
 have q87 : ∀ g, T g 87 = .slice (some ⟨br, orr, none⟩) lr cr := fun g => by rw [hT]; kernel_rfl
 have q88 : ∀ g, T g 88 = .pointer (some ⟨V, 0, none⟩) := fun g => by rw [hT]; kernel_rfl
 have q89 : ∀ g, T g 89 = .func (.func 140) #[.pointer (some ⟨V, 0, none⟩)] #[] := fun g => by rw [hT]; kernel_rfl
 have q90 : ∀ g, T g 90 = .int .i64 s6 := fun g => by rw [hT]; kernel_rfl
 have q91 : ∀ g, T g 91 = .int .i64 t6 := fun g => by rw [hT]; kernel_rfl
 have q92 : ∀ g, T g 92 = .pointer (some ⟨V, 0, none⟩) := fun g => by rw [hT]; kernel_rfl
 have q93 : ∀ g, T g 93 = .pointer (some ⟨V, 0, none⟩) := fun g => by rw [hT]; kernel_rfl
 have q94 : ∀ g, T g 94 = .pointer (some ⟨V, 0, none⟩) := fun g => by rw [hT]; kernel_rfl
 have q95 : ∀ g, T g 95 = .pointer (some ⟨b, 0, none⟩) := fun g => by rw [hT]; kernel_rfl
 have q96 : ∀ g, T g 96 = .pointer (some ⟨V, 0, none⟩) := fun g => by rw [hT]; kernel_rfl
 have q97 : ∀ g, T g 97 = .pointer (some ⟨V, 0, none⟩) := fun g => by rw [hT]; kernel_rfl
 have q98 : ∀ g, T g 98 = .pointer (some ⟨V, 4, none⟩) := fun g => by rw [hT]; kernel_rfl
 have q99 : ∀ g, T g 99 = .slice (some ⟨br, orr, none⟩) lr cr := fun g => by rw [hT]; kernel_rfl
 have q100 : ∀ g, T g 100 = .pointer (some ⟨br, orr + 7, none⟩) := fun g => by rw [hT]; kernel_rfl
 have q101 : ∀ g, T g 101 = .int .i64 x7 := fun g => by rw [hT]; kernel_rfl
 have q102 : ∀ g, T g 102 = .pointer (some ⟨V, 0, none⟩) := fun g => by rw [hT]; kernel_rfl
 have q103 : ∀ g, T g 103 = .pointer (some ⟨V, 0, none⟩) := fun g => by rw [hT]; kernel_rfl
 have q104 : ∀ g, T g 104 = .pointer (some ⟨V, 3, none⟩) := fun g => by rw [hT]; kernel_rfl
 have q105 : ∀ g, T g 105 = .int .i64 out := fun g => by rw [hT]; kernel_rfl
 have q106 : ∀ g, T g 106 = .int .i64 t7 := fun g => by rw [hT]; kernel_rfl
 have q107 : ∀ g, T g 107 = .slice (some ⟨g, 0, none⟩) 8 8 := fun g => by rw [hT]; kernel_rfl
 refine wp_region_vals [3, 4, 5, 6, 7, 8, 9, 10, 11, 12, 13, 14, 15, 16, 17, 18, 19, 20, 21, 22, 23, 24, 25, 26, 27, 28, 29, 30, 31, 32, 33, 34, 35, 36, 37, 38, 39, 40, 41, 42, 43, 44, 45, 46, 47, 48, 49, 50, 51, 52, 53, 54, 55, 56, 57, 58, 59, 60, 61, 62, 63, 64, 65, 66, 67, 68, 69, 70, 71, 72, 73, 74, 75, 76, 77, 78, 79, 80, 81, 82, 83, 84, 85, 86, 87, 88, 89, 90, 91, 92, 93, 94, 95, 96, 97, 98, 99, 100, 101, 102, 103, 104, 105, 106, 107, 2] (fun g => [.pointer (some ⟨V, 0, none⟩), .pointer (some ⟨V, 0, none⟩), .pointer (some ⟨V, 0, none⟩), .pointer (some ⟨b, 0, none⟩), .pointer (some ⟨V, 0, none⟩), .pointer (some ⟨V, 0, none⟩), .pointer (some ⟨V, 4, none⟩), .slice (some ⟨br, orr, none⟩) lr cr, .pointer (some ⟨br, orr + 20, none⟩), .int .i64 x20, .int .i64 t0, .pointer (some ⟨V, 0, none⟩), .pointer (some ⟨V, 0, none⟩), .pointer (some ⟨V, 0, none⟩), .pointer (some ⟨b, 0, none⟩), .pointer (some ⟨V, 0, none⟩), .pointer (some ⟨V, 0, none⟩), .pointer (some ⟨V, 4, none⟩), .slice (some ⟨br, orr, none⟩) lr cr, .pointer (some ⟨br, orr, none⟩), .int .i64 x0, .int .i64 t1, .pointer (some ⟨V, 0, none⟩), .pointer (some ⟨V, 0, none⟩), .pointer (some ⟨V, 0, none⟩), .pointer (some ⟨b, 0, none⟩), .pointer (some ⟨V, 0, none⟩), .pointer (some ⟨V, 0, none⟩), .pointer (some ⟨V, 0, none⟩), .pointer (some ⟨b, 0, none⟩), .pointer (some ⟨V, 0, none⟩), .pointer (some ⟨V, 0, none⟩), .pointer (some ⟨V, 4, none⟩), .slice (some ⟨br, orr, none⟩) lr cr, .pointer (some ⟨br, orr + 1, none⟩), .int .i64 x1, .int .i64 u2, .pointer (some ⟨V, 0, none⟩), .pointer (some ⟨V, 0, none⟩), .pointer (some ⟨V, 1, none⟩), .pointer (some ⟨V, 1, none⟩), .int .i64 size, .int .i64 t2, .pointer (some ⟨V, 0, none⟩), .pointer (some ⟨V, 0, none⟩), .pointer (some ⟨V, 0, none⟩), .pointer (some ⟨b, 0, none⟩), .pointer (some ⟨V, 0, none⟩), .pointer (some ⟨V, 0, none⟩), .pointer (some ⟨V, 4, none⟩), .slice (some ⟨br, orr, none⟩) lr cr, .pointer (some ⟨br, orr + 2, none⟩), .int .i64 x2, .int .i64 t3, .pointer (some ⟨V, 0, none⟩), .pointer (some ⟨V, 0, none⟩), .pointer (some ⟨V, 0, none⟩), .pointer (some ⟨b, 0, none⟩), .pointer (some ⟨V, 0, none⟩), .pointer (some ⟨V, 0, none⟩), .pointer (some ⟨V, 4, none⟩), .slice (some ⟨br, orr, none⟩) lr cr, .pointer (some ⟨br, orr + 12, none⟩), .int .i64 x12, .int .i64 t4, .pointer (some ⟨V, 0, none⟩), .pointer (some ⟨V, 0, none⟩), .pointer (some ⟨V, 0, none⟩), .pointer (some ⟨b, 0, none⟩), .pointer (some ⟨V, 0, none⟩), .pointer (some ⟨V, 0, none⟩), .pointer (some ⟨V, 4, none⟩), .slice (some ⟨br, orr, none⟩) lr cr, .pointer (some ⟨br, orr + 16, none⟩), .int .i64 x16, .int .i64 t5, .pointer (some ⟨V, 0, none⟩), .pointer (some ⟨V, 0, none⟩), .pointer (some ⟨V, 0, none⟩), .pointer (some ⟨b, 0, none⟩), .pointer (some ⟨V, 0, none⟩), .pointer (some ⟨V, 0, none⟩), .pointer (some ⟨V, 0, none⟩), .pointer (some ⟨V, 4, none⟩), .slice (some ⟨br, orr, none⟩) lr cr, .pointer (some ⟨V, 0, none⟩), .func (.func 140) #[.pointer (some ⟨V, 0, none⟩)] #[], .int .i64 s6, .int .i64 t6, .pointer (some ⟨V, 0, none⟩), .pointer (some ⟨V, 0, none⟩), .pointer (some ⟨V, 0, none⟩), .pointer (some ⟨b, 0, none⟩), .pointer (some ⟨V, 0, none⟩), .pointer (some ⟨V, 0, none⟩), .pointer (some ⟨V, 4, none⟩), .slice (some ⟨br, orr, none⟩) lr cr, .pointer (some ⟨br, orr + 7, none⟩), .int .i64 x7, .pointer (some ⟨V, 0, none⟩), .pointer (some ⟨V, 0, none⟩), .pointer (some ⟨V, 3, none⟩), .int .i64 out, .int .i64 t7, .slice (some ⟨g, 0, none⟩) 8 8, .slice (some ⟨g, 0, none⟩) 8 8]) (fun W => Below w.heap.size w W) (fun g W => w.heap.size <= g /\ W.heap[g]? = some (.cells #[.int .i64 t0, .int .i64 t1, .int .i64 t2, .int .i64 t3, .int .i64 t4, .int .i64 t5, .int .i64 t6, .int .i64 t7] 3 (0, 0))) 104 _ _ T (fun g => by rw [hT]) (by kernel_rfl) (of_decide_eq_true (by kernel_rfl)) (by kernel_rfl) (by kernel_rfl) (by kernel_rfl) (by kernel_rfl) ⟨_, ⟨104, .data⟩, rfl, by simp, rfl, rfl⟩ (fun _ => by kernel_rfl) ?c1 (fun g W W' h hb => ⟨h.1, (hb.block g (Array.getElem?_eq_some_iff.1 h.2).1).trans h.2⟩) ?c2 ?c3 hdd
 case c1 =>
  intro g g' k hk
  rw [show ([(pz V), (pz V), (pz V), (pz b), (pz V), (pz V), .pointer (some ⟨V, 4, none⟩), .slice (some ⟨br, orr, none⟩) lr cr, .pointer (some ⟨br, orr + 20, none⟩), .int .i64 x20, .int .i64 t0, (pz V), (pz V), (pz V), (pz b), (pz V), (pz V), .pointer (some ⟨V, 4, none⟩), .slice (some ⟨br, orr, none⟩) lr cr, .pointer (some ⟨br, orr, none⟩), .int .i64 x0, .int .i64 t1, (pz V), (pz V), (pz V), (pz b), (pz V), (pz V), (pz V), (pz b), (pz V), (pz V), .pointer (some ⟨V, 4, none⟩), .slice (some ⟨br, orr, none⟩) lr cr, .pointer (some ⟨br, orr + 1, none⟩), .int .i64 x1, .int .i64 u2, (pz V), (pz V), .pointer (some ⟨V, 1, none⟩), .pointer (some ⟨V, 1, none⟩), .int .i64 size, .int .i64 t2, (pz V), (pz V), (pz V), (pz b), (pz V), (pz V), .pointer (some ⟨V, 4, none⟩), .slice (some ⟨br, orr, none⟩) lr cr, .pointer (some ⟨br, orr + 2, none⟩), .int .i64 x2, .int .i64 t3, (pz V), (pz V), (pz V), (pz b), (pz V), (pz V), .pointer (some ⟨V, 4, none⟩), .slice (some ⟨br, orr, none⟩) lr cr, .pointer (some ⟨br, orr + 12, none⟩), .int .i64 x12, .int .i64 t4, (pz V), (pz V), (pz V), (pz b), (pz V), (pz V), .pointer (some ⟨V, 4, none⟩), .slice (some ⟨br, orr, none⟩) lr cr, .pointer (some ⟨br, orr + 16, none⟩), .int .i64 x16, .int .i64 t5, (pz V), (pz V), (pz V), (pz b), (pz V), (pz V), (pz V), .pointer (some ⟨V, 4, none⟩), .slice (some ⟨br, orr, none⟩) lr cr, (pz V), .func (.func 140) #[(pz V)] #[], .int .i64 s6, .int .i64 t6, (pz V), (pz V), (pz V), (pz b), (pz V), (pz V), .pointer (some ⟨V, 4, none⟩), .slice (some ⟨br, orr, none⟩) lr cr, .pointer (some ⟨br, orr + 7, none⟩), .int .i64 x7, (pz V), (pz V), .pointer (some ⟨V, 3, none⟩), .int .i64 out, .int .i64 t7, .slice (some ⟨g, 0, none⟩) 8 8, .slice (some ⟨g, 0, none⟩) 8 8] : List Value) = [(pz V), (pz V), (pz V), (pz b), (pz V), (pz V), .pointer (some ⟨V, 4, none⟩), .slice (some ⟨br, orr, none⟩) lr cr, .pointer (some ⟨br, orr + 20, none⟩), .int .i64 x20, .int .i64 t0, (pz V), (pz V), (pz V), (pz b), (pz V), (pz V), .pointer (some ⟨V, 4, none⟩), .slice (some ⟨br, orr, none⟩) lr cr, .pointer (some ⟨br, orr, none⟩), .int .i64 x0, .int .i64 t1, (pz V), (pz V), (pz V), (pz b), (pz V), (pz V), (pz V), (pz b), (pz V), (pz V), .pointer (some ⟨V, 4, none⟩), .slice (some ⟨br, orr, none⟩) lr cr, .pointer (some ⟨br, orr + 1, none⟩), .int .i64 x1, .int .i64 u2, (pz V), (pz V), .pointer (some ⟨V, 1, none⟩), .pointer (some ⟨V, 1, none⟩), .int .i64 size, .int .i64 t2, (pz V), (pz V), (pz V), (pz b), (pz V), (pz V), .pointer (some ⟨V, 4, none⟩), .slice (some ⟨br, orr, none⟩) lr cr, .pointer (some ⟨br, orr + 2, none⟩), .int .i64 x2, .int .i64 t3, (pz V), (pz V), (pz V), (pz b), (pz V), (pz V), .pointer (some ⟨V, 4, none⟩), .slice (some ⟨br, orr, none⟩) lr cr, .pointer (some ⟨br, orr + 12, none⟩), .int .i64 x12, .int .i64 t4, (pz V), (pz V), (pz V), (pz b), (pz V), (pz V), .pointer (some ⟨V, 4, none⟩), .slice (some ⟨br, orr, none⟩) lr cr, .pointer (some ⟨br, orr + 16, none⟩), .int .i64 x16, .int .i64 t5, (pz V), (pz V), (pz V), (pz b), (pz V), (pz V), (pz V), .pointer (some ⟨V, 4, none⟩), .slice (some ⟨br, orr, none⟩) lr cr, (pz V), .func (.func 140) #[(pz V)] #[], .int .i64 s6, .int .i64 t6, (pz V), (pz V), (pz V), (pz b), (pz V), (pz V), .pointer (some ⟨V, 4, none⟩), .slice (some ⟨br, orr, none⟩) lr cr, .pointer (some ⟨br, orr + 7, none⟩), .int .i64 x7, (pz V), (pz V), .pointer (some ⟨V, 3, none⟩), .int .i64 out, .int .i64 t7] ++ [.slice (some ⟨g, 0, none⟩) 8 8, .slice (some ⟨g, 0, none⟩) 8 8] from by kernel_rfl, show ([(pz V), (pz V), (pz V), (pz b), (pz V), (pz V), .pointer (some ⟨V, 4, none⟩), .slice (some ⟨br, orr, none⟩) lr cr, .pointer (some ⟨br, orr + 20, none⟩), .int .i64 x20, .int .i64 t0, (pz V), (pz V), (pz V), (pz b), (pz V), (pz V), .pointer (some ⟨V, 4, none⟩), .slice (some ⟨br, orr, none⟩) lr cr, .pointer (some ⟨br, orr, none⟩), .int .i64 x0, .int .i64 t1, (pz V), (pz V), (pz V), (pz b), (pz V), (pz V), (pz V), (pz b), (pz V), (pz V), .pointer (some ⟨V, 4, none⟩), .slice (some ⟨br, orr, none⟩) lr cr, .pointer (some ⟨br, orr + 1, none⟩), .int .i64 x1, .int .i64 u2, (pz V), (pz V), .pointer (some ⟨V, 1, none⟩), .pointer (some ⟨V, 1, none⟩), .int .i64 size, .int .i64 t2, (pz V), (pz V), (pz V), (pz b), (pz V), (pz V), .pointer (some ⟨V, 4, none⟩), .slice (some ⟨br, orr, none⟩) lr cr, .pointer (some ⟨br, orr + 2, none⟩), .int .i64 x2, .int .i64 t3, (pz V), (pz V), (pz V), (pz b), (pz V), (pz V), .pointer (some ⟨V, 4, none⟩), .slice (some ⟨br, orr, none⟩) lr cr, .pointer (some ⟨br, orr + 12, none⟩), .int .i64 x12, .int .i64 t4, (pz V), (pz V), (pz V), (pz b), (pz V), (pz V), .pointer (some ⟨V, 4, none⟩), .slice (some ⟨br, orr, none⟩) lr cr, .pointer (some ⟨br, orr + 16, none⟩), .int .i64 x16, .int .i64 t5, (pz V), (pz V), (pz V), (pz b), (pz V), (pz V), (pz V), .pointer (some ⟨V, 4, none⟩), .slice (some ⟨br, orr, none⟩) lr cr, (pz V), .func (.func 140) #[(pz V)] #[], .int .i64 s6, .int .i64 t6, (pz V), (pz V), (pz V), (pz b), (pz V), (pz V), .pointer (some ⟨V, 4, none⟩), .slice (some ⟨br, orr, none⟩) lr cr, .pointer (some ⟨br, orr + 7, none⟩), .int .i64 x7, (pz V), (pz V), .pointer (some ⟨V, 3, none⟩), .int .i64 out, .int .i64 t7, .slice (some ⟨g', 0, none⟩) 8 8, .slice (some ⟨g', 0, none⟩) 8 8] : List Value) = [(pz V), (pz V), (pz V), (pz b), (pz V), (pz V), .pointer (some ⟨V, 4, none⟩), .slice (some ⟨br, orr, none⟩) lr cr, .pointer (some ⟨br, orr + 20, none⟩), .int .i64 x20, .int .i64 t0, (pz V), (pz V), (pz V), (pz b), (pz V), (pz V), .pointer (some ⟨V, 4, none⟩), .slice (some ⟨br, orr, none⟩) lr cr, .pointer (some ⟨br, orr, none⟩), .int .i64 x0, .int .i64 t1, (pz V), (pz V), (pz V), (pz b), (pz V), (pz V), (pz V), (pz b), (pz V), (pz V), .pointer (some ⟨V, 4, none⟩), .slice (some ⟨br, orr, none⟩) lr cr, .pointer (some ⟨br, orr + 1, none⟩), .int .i64 x1, .int .i64 u2, (pz V), (pz V), .pointer (some ⟨V, 1, none⟩), .pointer (some ⟨V, 1, none⟩), .int .i64 size, .int .i64 t2, (pz V), (pz V), (pz V), (pz b), (pz V), (pz V), .pointer (some ⟨V, 4, none⟩), .slice (some ⟨br, orr, none⟩) lr cr, .pointer (some ⟨br, orr + 2, none⟩), .int .i64 x2, .int .i64 t3, (pz V), (pz V), (pz V), (pz b), (pz V), (pz V), .pointer (some ⟨V, 4, none⟩), .slice (some ⟨br, orr, none⟩) lr cr, .pointer (some ⟨br, orr + 12, none⟩), .int .i64 x12, .int .i64 t4, (pz V), (pz V), (pz V), (pz b), (pz V), (pz V), .pointer (some ⟨V, 4, none⟩), .slice (some ⟨br, orr, none⟩) lr cr, .pointer (some ⟨br, orr + 16, none⟩), .int .i64 x16, .int .i64 t5, (pz V), (pz V), (pz V), (pz b), (pz V), (pz V), (pz V), .pointer (some ⟨V, 4, none⟩), .slice (some ⟨br, orr, none⟩) lr cr, (pz V), .func (.func 140) #[(pz V)] #[], .int .i64 s6, .int .i64 t6, (pz V), (pz V), (pz V), (pz b), (pz V), (pz V), .pointer (some ⟨V, 4, none⟩), .slice (some ⟨br, orr, none⟩) lr cr, .pointer (some ⟨br, orr + 7, none⟩), .int .i64 x7, (pz V), (pz V), .pointer (some ⟨V, 3, none⟩), .int .i64 out, .int .i64 t7] ++ [.slice (some ⟨g', 0, none⟩) 8 8, .slice (some ⟨g', 0, none⟩) 8 8] from by kernel_rfl]
  simp only [List.getD_eq_getElem?_getD]
  rw [List.getElem?_append_left (by simpa using hk), List.getElem?_append_left (by simpa using hk)]
 case c2 =>
  clear hT
  refine AllI.cons (gives_val (fun g W hS => by simp only [execOp, evT, Option.getD_some, q0, q3]; rfl)) ?_
  refine AllI.cons (gives_val (fun g W hS => by simp only [execOp, evT, Option.getD_some, q3, q4]; rfl)) ?_
  refine AllI.cons (gives_val (fun g W hS => by simp only [execOp, evT, Option.getD_some, q4, q5]; kernel_rfl)) ?_
  refine AllI.cons (gives_val (fun g W hS => by obtain ⟨c0, c1, c3, c4, c5, r0, r1, r2, r7, r12, r16, r20⟩ := HX.out W hS; simp only [execOp, evT, Option.getD_some, q5, q6]; go_simp)) ?_
  refine AllI.cons (gives_val (fun g W hS => by simp only [execOp, evT, Option.getD_some, q0, q7]; rfl)) ?_
  refine AllI.cons (gives_val (fun g W hS => by simp only [execOp, evT, Option.getD_some, q7, q8]; rfl)) ?_
  refine AllI.cons (gives_val (fun g W hS => by simp only [execOp, evT, Option.getD_some, q8, q9]; kernel_rfl)) ?_
  refine AllI.cons (gives_val (fun g W hS => by obtain ⟨c0, c1, c3, c4, c5, r0, r1, r2, r7, r12, r16, r20⟩ := HX.out W hS; simp only [execOp, evT, Option.getD_some, q9, q10]; go_simp)) ?_
  refine AllI.cons (gives_val (fun g W hS => by simp only [execOp, evT, Option.getD_some, q10, q11]; go_simp)) ?_
  refine AllI.cons (gives_val (fun g W hS => by obtain ⟨c0, c1, c3, c4, c5, r0, r1, r2, r7, r12, r16, r20⟩ := HX.out W hS; simp only [execOp, evT, Option.getD_some, q11, q12]; go_simp)) ?_
  refine AllI.cons (gives_call (fun g W hS => by simp only [execOp, resolve, List.map_toArray, List.map_cons, List.map_nil, evT, q6, q12]; kernel_rfl) (fun g W hS => by simp only [Option.getD_some, q13]; exact HC0.out W hS)) ?_
  refine AllI.cons (gives_val (fun g W hS => by simp only [execOp, evT, Option.getD_some, q0, q14]; rfl)) ?_
  refine AllI.cons (gives_val (fun g W hS => by simp only [execOp, evT, Option.getD_some, q14, q15]; rfl)) ?_
  refine AllI.cons (gives_val (fun g W hS => by simp only [execOp, evT, Option.getD_some, q15, q16]; kernel_rfl)) ?_
  refine AllI.cons (gives_val (fun g W hS => by obtain ⟨c0, c1, c3, c4, c5, r0, r1, r2, r7, r12, r16, r20⟩ := HX.out W hS; simp only [execOp, evT, Option.getD_some, q16, q17]; go_simp)) ?_
  refine AllI.cons (gives_val (fun g W hS => by simp only [execOp, evT, Option.getD_some, q0, q18]; rfl)) ?_
  refine AllI.cons (gives_val (fun g W hS => by simp only [execOp, evT, Option.getD_some, q18, q19]; rfl)) ?_
  refine AllI.cons (gives_val (fun g W hS => by simp only [execOp, evT, Option.getD_some, q19, q20]; kernel_rfl)) ?_
  refine AllI.cons (gives_val (fun g W hS => by obtain ⟨c0, c1, c3, c4, c5, r0, r1, r2, r7, r12, r16, r20⟩ := HX.out W hS; simp only [execOp, evT, Option.getD_some, q20, q21]; go_simp)) ?_
  refine AllI.cons (gives_val (fun g W hS => by simp only [execOp, evT, Option.getD_some, q21, q22]; go_simp)) ?_
  refine AllI.cons (gives_val (fun g W hS => by obtain ⟨c0, c1, c3, c4, c5, r0, r1, r2, r7, r12, r16, r20⟩ := HX.out W hS; simp only [execOp, evT, Option.getD_some, q22, q23]; go_simp)) ?_
  refine AllI.cons (gives_call (fun g W hS => by simp only [execOp, resolve, List.map_toArray, List.map_cons, List.map_nil, evT, q17, q23]; kernel_rfl) (fun g W hS => by simp only [Option.getD_some, q24]; exact HC1.out W hS)) ?_
  refine AllI.cons (gives_val (fun g W hS => by simp only [execOp, evT, Option.getD_some, q0, q25]; rfl)) ?_
  refine AllI.cons (gives_val (fun g W hS => by simp only [execOp, evT, Option.getD_some, q25, q26]; rfl)) ?_
  refine AllI.cons (gives_val (fun g W hS => by simp only [execOp, evT, Option.getD_some, q26, q27]; kernel_rfl)) ?_
  refine AllI.cons (gives_val (fun g W hS => by obtain ⟨c0, c1, c3, c4, c5, r0, r1, r2, r7, r12, r16, r20⟩ := HX.out W hS; simp only [execOp, evT, Option.getD_some, q27, q28]; go_simp)) ?_
  refine AllI.cons (gives_val (fun g W hS => by simp only [execOp, evT, Option.getD_some, q0, q29]; rfl)) ?_
  refine AllI.cons (gives_val (fun g W hS => by simp only [execOp, evT, Option.getD_some, q29, q30]; rfl)) ?_
  refine AllI.cons (gives_val (fun g W hS => by simp only [execOp, evT, Option.getD_some, q30, q31]; kernel_rfl)) ?_
  refine AllI.cons (gives_val (fun g W hS => by obtain ⟨c0, c1, c3, c4, c5, r0, r1, r2, r7, r12, r16, r20⟩ := HX.out W hS; simp only [execOp, evT, Option.getD_some, q31, q32]; go_simp)) ?_
  refine AllI.cons (gives_val (fun g W hS => by simp only [execOp, evT, Option.getD_some, q0, q33]; rfl)) ?_
  refine AllI.cons (gives_val (fun g W hS => by simp only [execOp, evT, Option.getD_some, q33, q34]; rfl)) ?_
  refine AllI.cons (gives_val (fun g W hS => by simp only [execOp, evT, Option.getD_some, q34, q35]; kernel_rfl)) ?_
  refine AllI.cons (gives_val (fun g W hS => by obtain ⟨c0, c1, c3, c4, c5, r0, r1, r2, r7, r12, r16, r20⟩ := HX.out W hS; simp only [execOp, evT, Option.getD_some, q35, q36]; go_simp)) ?_
  refine AllI.cons (gives_val (fun g W hS => by simp only [execOp, evT, Option.getD_some, q36, q37]; go_simp)) ?_
  refine AllI.cons (gives_val (fun g W hS => by obtain ⟨c0, c1, c3, c4, c5, r0, r1, r2, r7, r12, r16, r20⟩ := HX.out W hS; simp only [execOp, evT, Option.getD_some, q37, q38]; go_simp)) ?_
  refine AllI.cons (gives_call (fun g W hS => by simp only [execOp, resolve, List.map_toArray, List.map_cons, List.map_nil, evT, q32, q38]; kernel_rfl) (fun g W hS => by simp only [Option.getD_some, q39]; exact HC2.out W hS)) ?_
  refine AllI.cons (gives_val (fun g W hS => by simp only [execOp, evT, Option.getD_some, q0, q40]; rfl)) ?_
  refine AllI.cons (gives_val (fun g W hS => by simp only [execOp, evT, Option.getD_some, q40, q41]; rfl)) ?_
  refine AllI.cons (gives_val (fun g W hS => by simp only [execOp, evT, Option.getD_some, q41, q42]; kernel_rfl)) ?_
  refine AllI.cons (gives_val (fun g W hS => by simp only [execOp, evT, Option.getD_some, q42, q43]; kernel_rfl)) ?_
  refine AllI.cons (gives_val (fun g W hS => by obtain ⟨c0, c1, c3, c4, c5, r0, r1, r2, r7, r12, r16, r20⟩ := HX.out W hS; simp only [execOp, evT, Option.getD_some, q43, q44]; go_simp)) ?_
  refine AllI.cons (gives_call (fun g W hS => by simp only [execOp, resolve, List.map_toArray, List.map_cons, List.map_nil, evT, q28, q39, q44]; kernel_rfl) (fun g W hS => by simp only [Option.getD_some, q45]; exact HC3.out W hS)) ?_
  refine AllI.cons (gives_val (fun g W hS => by simp only [execOp, evT, Option.getD_some, q0, q46]; rfl)) ?_
  refine AllI.cons (gives_val (fun g W hS => by simp only [execOp, evT, Option.getD_some, q46, q47]; rfl)) ?_
  refine AllI.cons (gives_val (fun g W hS => by simp only [execOp, evT, Option.getD_some, q47, q48]; kernel_rfl)) ?_
  refine AllI.cons (gives_val (fun g W hS => by obtain ⟨c0, c1, c3, c4, c5, r0, r1, r2, r7, r12, r16, r20⟩ := HX.out W hS; simp only [execOp, evT, Option.getD_some, q48, q49]; go_simp)) ?_
  refine AllI.cons (gives_val (fun g W hS => by simp only [execOp, evT, Option.getD_some, q0, q50]; rfl)) ?_
  refine AllI.cons (gives_val (fun g W hS => by simp only [execOp, evT, Option.getD_some, q50, q51]; rfl)) ?_
  refine AllI.cons (gives_val (fun g W hS => by simp only [execOp, evT, Option.getD_some, q51, q52]; kernel_rfl)) ?_
  refine AllI.cons (gives_val (fun g W hS => by obtain ⟨c0, c1, c3, c4, c5, r0, r1, r2, r7, r12, r16, r20⟩ := HX.out W hS; simp only [execOp, evT, Option.getD_some, q52, q53]; go_simp)) ?_
  refine AllI.cons (gives_val (fun g W hS => by simp only [execOp, evT, Option.getD_some, q53, q54]; go_simp)) ?_
  refine AllI.cons (gives_val (fun g W hS => by obtain ⟨c0, c1, c3, c4, c5, r0, r1, r2, r7, r12, r16, r20⟩ := HX.out W hS; simp only [execOp, evT, Option.getD_some, q54, q55]; go_simp)) ?_
  refine AllI.cons (gives_call (fun g W hS => by simp only [execOp, resolve, List.map_toArray, List.map_cons, List.map_nil, evT, q49, q55]; kernel_rfl) (fun g W hS => by simp only [Option.getD_some, q56]; exact HC4.out W hS)) ?_
  refine AllI.cons (gives_val (fun g W hS => by simp only [execOp, evT, Option.getD_some, q0, q57]; rfl)) ?_
  refine AllI.cons (gives_val (fun g W hS => by simp only [execOp, evT, Option.getD_some, q57, q58]; rfl)) ?_
  refine AllI.cons (gives_val (fun g W hS => by simp only [execOp, evT, Option.getD_some, q58, q59]; kernel_rfl)) ?_
  refine AllI.cons (gives_val (fun g W hS => by obtain ⟨c0, c1, c3, c4, c5, r0, r1, r2, r7, r12, r16, r20⟩ := HX.out W hS; simp only [execOp, evT, Option.getD_some, q59, q60]; go_simp)) ?_
  refine AllI.cons (gives_val (fun g W hS => by simp only [execOp, evT, Option.getD_some, q0, q61]; rfl)) ?_
  refine AllI.cons (gives_val (fun g W hS => by simp only [execOp, evT, Option.getD_some, q61, q62]; rfl)) ?_
  refine AllI.cons (gives_val (fun g W hS => by simp only [execOp, evT, Option.getD_some, q62, q63]; kernel_rfl)) ?_
  refine AllI.cons (gives_val (fun g W hS => by obtain ⟨c0, c1, c3, c4, c5, r0, r1, r2, r7, r12, r16, r20⟩ := HX.out W hS; simp only [execOp, evT, Option.getD_some, q63, q64]; go_simp)) ?_
  refine AllI.cons (gives_val (fun g W hS => by simp only [execOp, evT, Option.getD_some, q64, q65]; go_simp)) ?_
  refine AllI.cons (gives_val (fun g W hS => by obtain ⟨c0, c1, c3, c4, c5, r0, r1, r2, r7, r12, r16, r20⟩ := HX.out W hS; simp only [execOp, evT, Option.getD_some, q65, q66]; go_simp)) ?_
  refine AllI.cons (gives_call (fun g W hS => by simp only [execOp, resolve, List.map_toArray, List.map_cons, List.map_nil, evT, q60, q66]; kernel_rfl) (fun g W hS => by simp only [Option.getD_some, q67]; exact HC5.out W hS)) ?_
  refine AllI.cons (gives_val (fun g W hS => by simp only [execOp, evT, Option.getD_some, q0, q68]; rfl)) ?_
  refine AllI.cons (gives_val (fun g W hS => by simp only [execOp, evT, Option.getD_some, q68, q69]; rfl)) ?_
  refine AllI.cons (gives_val (fun g W hS => by simp only [execOp, evT, Option.getD_some, q69, q70]; kernel_rfl)) ?_
  refine AllI.cons (gives_val (fun g W hS => by obtain ⟨c0, c1, c3, c4, c5, r0, r1, r2, r7, r12, r16, r20⟩ := HX.out W hS; simp only [execOp, evT, Option.getD_some, q70, q71]; go_simp)) ?_
  refine AllI.cons (gives_val (fun g W hS => by simp only [execOp, evT, Option.getD_some, q0, q72]; rfl)) ?_
  refine AllI.cons (gives_val (fun g W hS => by simp only [execOp, evT, Option.getD_some, q72, q73]; rfl)) ?_
  refine AllI.cons (gives_val (fun g W hS => by simp only [execOp, evT, Option.getD_some, q73, q74]; kernel_rfl)) ?_
  refine AllI.cons (gives_val (fun g W hS => by obtain ⟨c0, c1, c3, c4, c5, r0, r1, r2, r7, r12, r16, r20⟩ := HX.out W hS; simp only [execOp, evT, Option.getD_some, q74, q75]; go_simp)) ?_
  refine AllI.cons (gives_val (fun g W hS => by simp only [execOp, evT, Option.getD_some, q75, q76]; go_simp)) ?_
  refine AllI.cons (gives_val (fun g W hS => by obtain ⟨c0, c1, c3, c4, c5, r0, r1, r2, r7, r12, r16, r20⟩ := HX.out W hS; simp only [execOp, evT, Option.getD_some, q76, q77]; go_simp)) ?_
  refine AllI.cons (gives_call (fun g W hS => by simp only [execOp, resolve, List.map_toArray, List.map_cons, List.map_nil, evT, q71, q77]; kernel_rfl) (fun g W hS => by simp only [Option.getD_some, q78]; exact HC6.out W hS)) ?_
  refine AllI.cons (gives_val (fun g W hS => by simp only [execOp, evT, Option.getD_some, q0, q79]; rfl)) ?_
  refine AllI.cons (gives_val (fun g W hS => by simp only [execOp, evT, Option.getD_some, q79, q80]; rfl)) ?_
  refine AllI.cons (gives_val (fun g W hS => by simp only [execOp, evT, Option.getD_some, q80, q81]; kernel_rfl)) ?_
  refine AllI.cons (gives_val (fun g W hS => by obtain ⟨c0, c1, c3, c4, c5, r0, r1, r2, r7, r12, r16, r20⟩ := HX.out W hS; simp only [execOp, evT, Option.getD_some, q81, q82]; go_simp)) ?_
  refine AllI.cons (gives_val (fun g W hS => by simp only [execOp, evT, Option.getD_some, q0, q83]; rfl)) ?_
  refine AllI.cons (gives_val (fun g W hS => by simp only [execOp, evT, Option.getD_some, q0, q84]; rfl)) ?_
  refine AllI.cons (gives_val (fun g W hS => by simp only [execOp, evT, Option.getD_some, q84, q85]; rfl)) ?_
  refine AllI.cons (gives_val (fun g W hS => by simp only [execOp, evT, Option.getD_some, q85, q86]; kernel_rfl)) ?_
  refine AllI.cons (gives_val (fun g W hS => by obtain ⟨c0, c1, c3, c4, c5, r0, r1, r2, r7, r12, r16, r20⟩ := HX.out W hS; simp only [execOp, evT, Option.getD_some, q86, q87]; go_simp)) ?_
  refine AllI.cons (gives_val (fun g W hS => by simp only [execOp, evT, Option.getD_some, q0, q88]; rfl)) ?_
  refine AllI.cons (gives_val (fun g W hS => by simp only [execOp, List.map_toArray, List.map_cons, List.map_nil, evT, Option.getD_some, q88, q89]; kernel_rfl)) ?_
  refine AllI.cons (gives_call (fun g W hS => by simp only [execOp, resolve, List.map_toArray, List.map_cons, List.map_nil, evT, q83, q87, q89]; kernel_rfl) (fun g W hS => by simp only [Option.getD_some, q90]; exact HC7.out W hS)) ?_
  refine AllI.cons (gives_call (fun g W hS => by simp only [execOp, resolve, List.map_toArray, List.map_cons, List.map_nil, evT, q82, q90]; kernel_rfl) (fun g W hS => by simp only [Option.getD_some, q91]; exact HC8.out W hS)) ?_
  refine AllI.cons (gives_val (fun g W hS => by simp only [execOp, evT, Option.getD_some, q0, q92]; rfl)) ?_
  refine AllI.cons (gives_val (fun g W hS => by simp only [execOp, evT, Option.getD_some, q92, q93]; rfl)) ?_
  refine AllI.cons (gives_val (fun g W hS => by simp only [execOp, evT, Option.getD_some, q93, q94]; kernel_rfl)) ?_
  refine AllI.cons (gives_val (fun g W hS => by obtain ⟨c0, c1, c3, c4, c5, r0, r1, r2, r7, r12, r16, r20⟩ := HX.out W hS; simp only [execOp, evT, Option.getD_some, q94, q95]; go_simp)) ?_
  refine AllI.cons (gives_val (fun g W hS => by simp only [execOp, evT, Option.getD_some, q0, q96]; rfl)) ?_
  refine AllI.cons (gives_val (fun g W hS => by simp only [execOp, evT, Option.getD_some, q96, q97]; rfl)) ?_
  refine AllI.cons (gives_val (fun g W hS => by simp only [execOp, evT, Option.getD_some, q97, q98]; kernel_rfl)) ?_
  refine AllI.cons (gives_val (fun g W hS => by obtain ⟨c0, c1, c3, c4, c5, r0, r1, r2, r7, r12, r16, r20⟩ := HX.out W hS; simp only [execOp, evT, Option.getD_some, q98, q99]; go_simp)) ?_
  refine AllI.cons (gives_val (fun g W hS => by simp only [execOp, evT, Option.getD_some, q99, q100]; go_simp)) ?_
  refine AllI.cons (gives_val (fun g W hS => by obtain ⟨c0, c1, c3, c4, c5, r0, r1, r2, r7, r12, r16, r20⟩ := HX.out W hS; simp only [execOp, evT, Option.getD_some, q100, q101]; go_simp)) ?_
  refine AllI.cons (gives_val (fun g W hS => by simp only [execOp, evT, Option.getD_some, q0, q102]; rfl)) ?_
  refine AllI.cons (gives_val (fun g W hS => by simp only [execOp, evT, Option.getD_some, q102, q103]; rfl)) ?_
  refine AllI.cons (gives_val (fun g W hS => by simp only [execOp, evT, Option.getD_some, q103, q104]; kernel_rfl)) ?_
  refine AllI.cons (gives_val (fun g W hS => by obtain ⟨c0, c1, c3, c4, c5, r0, r1, r2, r7, r12, r16, r20⟩ := HX.out W hS; simp only [execOp, evT, Option.getD_some, q104, q105]; go_simp)) ?_
  refine AllI.cons (gives_call (fun g W hS => by simp only [execOp, resolve, List.map_toArray, List.map_cons, List.map_nil, evT, q95, q101, q105]; kernel_rfl) (fun g W hS => by simp only [Option.getD_some, q106]; exact HC9.out W hS)) ?_
  refine AllI.cons (fun g W a K hS hK => by
   simp only [execOp, evT]
   go_simp
   have hk := hK W.heap.size _ (Below.alloc hS hS.size _) ⟨hS.size, heap_alloc_new W _⟩
   simp only [Option.getD_some, q107] at hk
   exact hk) ?_
  refine AllI.cons (gives_val (fun g W hS => by simp only [execOp, evT, Option.getD_some, q2, q107]; rfl)) ?_
  exact AllI.nil
 case c3 =>
  intro g W hS hG
  rw [show putAll _ _ _ = #[(pz V), undef, .slice (some ⟨g, 0, none⟩) 8 8, (pz V), (pz V), (pz V), (pz b), (pz V), (pz V), .pointer (some ⟨V, 4, none⟩), .slice (some ⟨br, orr, none⟩) lr cr, .pointer (some ⟨br, orr + 20, none⟩), .int .i64 x20, .int .i64 t0, (pz V), (pz V), (pz V), (pz b), (pz V), (pz V), .pointer (some ⟨V, 4, none⟩), .slice (some ⟨br, orr, none⟩) lr cr, .pointer (some ⟨br, orr, none⟩), .int .i64 x0, .int .i64 t1, (pz V), (pz V), (pz V), (pz b), (pz V), (pz V), (pz V), (pz b), (pz V), (pz V), .pointer (some ⟨V, 4, none⟩), .slice (some ⟨br, orr, none⟩) lr cr, .pointer (some ⟨br, orr + 1, none⟩), .int .i64 x1, .int .i64 u2, (pz V), (pz V), .pointer (some ⟨V, 1, none⟩), .pointer (some ⟨V, 1, none⟩), .int .i64 size, .int .i64 t2, (pz V), (pz V), (pz V), (pz b), (pz V), (pz V), .pointer (some ⟨V, 4, none⟩), .slice (some ⟨br, orr, none⟩) lr cr, .pointer (some ⟨br, orr + 2, none⟩), .int .i64 x2, .int .i64 t3, (pz V), (pz V), (pz V), (pz b), (pz V), (pz V), .pointer (some ⟨V, 4, none⟩), .slice (some ⟨br, orr, none⟩) lr cr, .pointer (some ⟨br, orr + 12, none⟩), .int .i64 x12, .int .i64 t4, (pz V), (pz V), (pz V), (pz b), (pz V), (pz V), .pointer (some ⟨V, 4, none⟩), .slice (some ⟨br, orr, none⟩) lr cr, .pointer (some ⟨br, orr + 16, none⟩), .int .i64 x16, .int .i64 t5, (pz V), (pz V), (pz V), (pz b), (pz V), (pz V), (pz V), .pointer (some ⟨V, 4, none⟩), .slice (some ⟨br, orr, none⟩) lr cr, (pz V), .func (.func 140) #[(pz V)] #[], .int .i64 s6, .int .i64 t6, (pz V), (pz V), (pz V), (pz b), (pz V), (pz V), .pointer (some ⟨V, 4, none⟩), .slice (some ⟨br, orr, none⟩) lr cr, .pointer (some ⟨br, orr + 7, none⟩), .int .i64 x7, (pz V), (pz V), .pointer (some ⟨V, 3, none⟩), .int .i64 out, .int .i64 t7, .slice (some ⟨g, 0, none⟩) 8 8] from by kernel_rfl]
  go_wp2_with fail
  exact HRR.out g _ _ hS hG.1 hG.2 rfl
end Go.Proofs.YtjlngcmkgkiplaaGreatDoor
