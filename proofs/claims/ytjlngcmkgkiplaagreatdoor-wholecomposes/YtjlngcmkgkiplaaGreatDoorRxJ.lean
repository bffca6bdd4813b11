
import Derived.Test.YtjlngcmkgkiplaaGreatDoorWcAT
set_option maxRecDepth 1000000
set_option maxHeartbeats 8000000
namespace Go.Proofs.YtjlngcmkgkiplaaGreatDoor
open Go.RowKit Go.Maps
theorem vhere_any (p b V : Nat) (L : List InsZ) (size out : Int) (r n : List Int) (aL : Option Addr) (cL : Nat) (ar : Option Addr) (cr : Nat) (an : Option Addr) (cn : Nat) (w : World) (H : VF p L size out r n) (hV : VW p b V L size out r n aL cL ar cr an cn w) :
  Calls Tryz.prog 115 #[.pointer (some ⟨V, 0, none⟩)] w (NewL [(smt p L r (fun _ _ => 1) - 1) % (p : Int), (zat r 3 - smt p L r (fun _ => tvC p r 0)) % (p : Int), (zat r 4 - smt p L r (fun _ => tvC p r 1)) % (p : Int), (zat r 5 - smt p L r (fun _ => tvC p r 2)) % (p : Int), smt p L r (fun _ => tvW p r), smt p L r (tvM p r)] w) := by
 have hmx : Tryz.prog.follows .mixedOrders = true := by kernel_rfl
 have h3 := H.h3
 have h4 := H.h4
 have e := em_I64 h3 h4
 have es := fun s f => (show I64 (smt p L s f) by have := smt_bd h3 L s f; unfold I64; omega)
 obtain ⟨br, orr, har, hrw⟩ := hV.rowAt H.hr
 subst har
 obtain ⟨bn, onn, han, hnw⟩ := hV.nxtAt H.hn
 subst han
 obtain ⟨R, hR⟩ := exE (NewL [(smt p L r (fun _ _ => 1) - 1) % (p : Int), (zat r 3 - smt p L r (fun _ => tvC p r 0)) % (p : Int), (zat r 4 - smt p L r (fun _ => tvC p r 1)) % (p : Int), (zat r 5 - smt p L r (fun _ => tvC p r 2)) % (p : Int), smt p L r (fun _ => tvW p r), smt p L r (tvM p r)] w)
 rw [<- hR]
 have HRR : Hid (∀ (g : Nat) (e : Ending) (w' : World), Below w.heap.size w w' -> w.heap.size <= g -> w'.heap[g]? = some (.cells #[.int .i64 ((smt p L r (fun _ _ => 1) - 1) % (p : Int)), .int .i64 ((zat r 3 - smt p L r (fun _ => tvC p r 0)) % (p : Int)), .int .i64 ((zat r 4 - smt p L r (fun _ => tvC p r 1)) % (p : Int)), .int .i64 ((zat r 5 - smt p L r (fun _ => tvC p r 2)) % (p : Int)), .int .i64 (smt p L r (fun _ => tvW p r)), .int .i64 (smt p L r (tvM p r))] 3 (0, 0)) -> e = .returned (.slice (some ⟨g, 0, none⟩) 6 6) -> R e w') := fun g e w' h1 h2 h4 h5 => by
  rw [hR, h5]
  exact ⟨g, rfl, h2, h4, h1⟩
 have hh1 := H.h1
 have HX : Hid (∀ W, Below w.heap.size w W -> (W.cell? ⟨V, 0, none⟩ = some (.pointer (some ⟨b, 0, none⟩)) /\ W.cell? ⟨V, 1, none⟩ = some (.int .i64 size) /\ W.cell? ⟨V, 3, none⟩ = some (.int .i64 out) /\ W.cell? ⟨V, 4, none⟩ = some (.slice (some ⟨br, orr, none⟩) r.length cr) /\ W.cell? ⟨V, 5, none⟩ = some (.slice (some ⟨bn, onn, none⟩) n.length cn) /\ W.cell? ⟨br, orr + 3, none⟩ = some (.int .i64 (zat r 3)) /\ W.cell? ⟨br, orr + 4, none⟩ = some (.int .i64 (zat r 4)) /\ W.cell? ⟨br, orr + 5, none⟩ = some (.int .i64 (zat r 5)))) := fun W h => by
  have hc := (hV.below h).cells
  exact ⟨hc.1, hc.2.1, hc.2.2.2.1, hc.2.2.2.2.1, hc.2.2.2.2.2, (h.cell (p := ⟨br, orr + 3, none⟩) (World.block_lt_of_cell? _ _ (hrw 3 (by omega)))).trans (hrw 3 (by omega)), (h.cell (p := ⟨br, orr + 4, none⟩) (World.block_lt_of_cell? _ _ (hrw 4 (by omega)))).trans (hrw 4 (by omega)), (h.cell (p := ⟨br, orr + 5, none⟩) (World.block_lt_of_cell? _ _ (hrw 5 (by omega)))).trans (hrw 5 (by omega))⟩
 have l3 := llL H 3
 have l4 := llL H 4
 have l5 := llL H 5
 have HC0 : Hid (∀ W, Below w.heap.size w W -> Calls Tryz.prog 128 #[.pointer (some ⟨V, 0, none⟩), .slice (some ⟨br, orr, none⟩) r.length cr, .func (.func 129) #[.pointer (some ⟨V, 0, none⟩)] #[]] W fun e w' => e = .returned (.int .i64 (smt p L r (fun _ _ => 1))) /\ Below w.heap.size w w' /\ Below W.heap.size W w') := fun W h => (vsum_any p b V L size out r n aL cL (some ⟨br, orr, none⟩) cr (some ⟨bn, onn, none⟩) cn W H (hV.below h) r (some ⟨br, orr, none⟩) cr (hV.below h).row H.hr H.fr _ _ (tm_once p b V L size out r n aL cL (some ⟨br, orr, none⟩) cr (some ⟨bn, onn, none⟩) cn W H (hV.below h))).mono (fun _ _ hh => ⟨hh.1, h.trans (hh.2.mono h.size), hh.2⟩)
 have HC1 : Hid (∀ W, Below w.heap.size w W -> Calls Tryz.prog 52 #[.pointer (some ⟨b, 0, none⟩), .int .i64 (smt p L r (fun _ _ => 1)), .int .i64 (1)] W fun e w' => e = .returned (.int .i64 (((smt p L r (fun _ _ => 1)) - 1) % (p : Int))) /\ Below w.heap.size w w' /\ Below W.heap.size W w') := fun W h => (sub_any p b _ _ W h3 h4 (hV.below h).fld (es _ _).1 (es _ _).2 (show I64 1 from I64_small 1).1 (show I64 1 from I64_small 1).2).mono (fun _ _ hh => ⟨hh.1, hh.2 ▸ h, hh.2 ▸ Below.refl _ _⟩)
 have HC2 : Hid (∀ W, Below w.heap.size w W -> Calls Tryz.prog 128 #[.pointer (some ⟨V, 0, none⟩), .slice (some ⟨br, orr, none⟩) r.length cr, .func (.func 130) #[.pointer (some ⟨V, 0, none⟩)] #[]] W fun e w' => e = .returned (.int .i64 (smt p L r (fun _ => tvC p r 0))) /\ Below w.heap.size w w' /\ Below W.heap.size W w') := fun W h => (vsum_any p b V L size out r n aL cL (some ⟨br, orr, none⟩) cr (some ⟨bn, onn, none⟩) cn W H (hV.below h) r (some ⟨br, orr, none⟩) cr (hV.below h).row H.hr H.fr _ _ (tm_firstCell p b V L size out r n aL cL (some ⟨br, orr, none⟩) cr (some ⟨bn, onn, none⟩) cn W H (hV.below h))).mono (fun _ _ hh => ⟨hh.1, h.trans (hh.2.mono h.size), hh.2⟩)
 have HC3 : Hid (∀ W, Below w.heap.size w W -> Calls Tryz.prog 52 #[.pointer (some ⟨b, 0, none⟩), .int .i64 (zat r 3), .int .i64 (smt p L r (fun _ => tvC p r 0))] W fun e w' => e = .returned (.int .i64 ((zat r 3 - smt p L r (fun _ => tvC p r 0)) % (p : Int))) /\ Below w.heap.size w w' /\ Below W.heap.size W w') := fun W h => (sub_any p b _ _ W h3 h4 (hV.below h).fld (H.fr 3).1 (H.fr 3).2 (es _ _).1 (es _ _).2).mono (fun _ _ hh => ⟨hh.1, hh.2 ▸ h, hh.2 ▸ Below.refl _ _⟩)
 have HC4 : Hid (∀ W, Below w.heap.size w W -> Calls Tryz.prog 128 #[.pointer (some ⟨V, 0, none⟩), .slice (some ⟨br, orr, none⟩) r.length cr, .func (.func 131) #[.pointer (some ⟨V, 0, none⟩)] #[]] W fun e w' => e = .returned (.int .i64 (smt p L r (fun _ => tvC p r 1))) /\ Below w.heap.size w w' /\ Below W.heap.size W w') := fun W h => (vsum_any p b V L size out r n aL cL (some ⟨br, orr, none⟩) cr (some ⟨bn, onn, none⟩) cn W H (hV.below h) r (some ⟨br, orr, none⟩) cr (hV.below h).row H.hr H.fr _ _ (tm_secondCell p b V L size out r n aL cL (some ⟨br, orr, none⟩) cr (some ⟨bn, onn, none⟩) cn W H (hV.below h))).mono (fun _ _ hh => ⟨hh.1, h.trans (hh.2.mono h.size), hh.2⟩)
 have HC5 : Hid (∀ W, Below w.heap.size w W -> Calls Tryz.prog 52 #[.pointer (some ⟨b, 0, none⟩), .int .i64 (zat r 4), .int .i64 (smt p L r (fun _ => tvC p r 1))] W fun e w' => e = .returned (.int .i64 ((zat r 4 - smt p L r (fun _ => tvC p r 1)) % (p : Int))) /\ Below w.heap.size w w' /\ Below W.heap.size W w') := fun W h => (sub_any p b _ _ W h3 h4 (hV.below h).fld (H.fr 4).1 (H.fr 4).2 (es _ _).1 (es _ _).2).mono (fun _ _ hh => ⟨hh.1, hh.2 ▸ h, hh.2 ▸ Below.refl _ _⟩)
 have HC6 : Hid (∀ W, Below w.heap.size w W -> Calls Tryz.prog 128 #[.pointer (some ⟨V, 0, none⟩), .slice (some ⟨br, orr, none⟩) r.length cr, .func (.func 132) #[.pointer (some ⟨V, 0, none⟩)] #[]] W fun e w' => e = .returned (.int .i64 (smt p L r (fun _ => tvC p r 2))) /\ Below w.heap.size w w' /\ Below W.heap.size W w') := fun W h => (vsum_any p b V L size out r n aL cL (some ⟨br, orr, none⟩) cr (some ⟨bn, onn, none⟩) cn W H (hV.below h) r (some ⟨br, orr, none⟩) cr (hV.below h).row H.hr H.fr _ _ (tm_thirdCell p b V L size out r n aL cL (some ⟨br, orr, none⟩) cr (some ⟨bn, onn, none⟩) cn W H (hV.below h))).mono (fun _ _ hh => ⟨hh.1, h.trans (hh.2.mono h.size), hh.2⟩)
 have HC7 : Hid (∀ W, Below w.heap.size w W -> Calls Tryz.prog 52 #[.pointer (some ⟨b, 0, none⟩), .int .i64 (zat r 5), .int .i64 (smt p L r (fun _ => tvC p r 2))] W fun e w' => e = .returned (.int .i64 ((zat r 5 - smt p L r (fun _ => tvC p r 2)) % (p : Int))) /\ Below w.heap.size w w' /\ Below W.heap.size W w') := fun W h => (sub_any p b _ _ W h3 h4 (hV.below h).fld (H.fr 5).1 (H.fr 5).2 (es _ _).1 (es _ _).2).mono (fun _ _ hh => ⟨hh.1, hh.2 ▸ h, hh.2 ▸ Below.refl _ _⟩)
 have HC8 : Hid (∀ W, Below w.heap.size w W -> Calls Tryz.prog 128 #[.pointer (some ⟨V, 0, none⟩), .slice (some ⟨br, orr, none⟩) r.length cr, .func (.func 133) #[.pointer (some ⟨V, 0, none⟩)] #[]] W fun e w' => e = .returned (.int .i64 (smt p L r (fun _ => tvW p r))) /\ Below w.heap.size w w' /\ Below W.heap.size W w') := fun W h => (vsum_any p b V L size out r n aL cL (some ⟨br, orr, none⟩) cr (some ⟨bn, onn, none⟩) cn W H (hV.below h) r (some ⟨br, orr, none⟩) cr (hV.below h).row H.hr H.fr _ _ (tm_work p b V L size out r n aL cL (some ⟨br, orr, none⟩) cr (some ⟨bn, onn, none⟩) cn W H (hV.below h))).mono (fun _ _ hh => ⟨hh.1, h.trans (hh.2.mono h.size), hh.2⟩)
 have HC9 : Hid (∀ W, Below w.heap.size w W -> Calls Tryz.prog 128 #[.pointer (some ⟨V, 0, none⟩), .slice (some ⟨br, orr, none⟩) r.length cr, .func (.func 134) #[.pointer (some ⟨V, 0, none⟩)] #[]] W fun e w' => e = .returned (.int .i64 (smt p L r (tvM p r))) /\ Below w.heap.size w w' /\ Below W.heap.size W w') := fun W h => (vsum_any p b V L size out r n aL cL (some ⟨br, orr, none⟩) cr (some ⟨bn, onn, none⟩) cn W H (hV.below h) r (some ⟨br, orr, none⟩) cr (hV.below h).row H.hr H.fr _ _ (tm_more p b V L size out r n aL cL (some ⟨br, orr, none⟩) cr (some ⟨bn, onn, none⟩) cn W H (hV.below h))).mono (fun _ _ hh => ⟨hh.1, h.trans (hh.2.mono h.size), hh.2⟩)
 clear hR H hV hrw hnw e es hh1
 generalize smt p L r (tvM p r) = t5 at *
 generalize smt p L r (fun _ => tvW p r) = t4 at *
 generalize (zat r 5 - smt p L r (fun _ => tvC p r 2)) % (p : Int) = t3 at *
 generalize smt p L r (fun _ => tvC p r 2) = s3 at *
 generalize (zat r 4 - smt p L r (fun _ => tvC p r 1)) % (p : Int) = t2 at *
 generalize smt p L r (fun _ => tvC p r 1) = s2 at *
 generalize (zat r 3 - smt p L r (fun _ => tvC p r 0)) % (p : Int) = t1 at *
 generalize smt p L r (fun _ => tvC p r 0) = s1 at *
 generalize ((smt p L r (fun _ _ => 1)) - 1) % (p : Int) = t0 at *
 generalize smt p L r (fun _ _ => 1) = s0 at *
 generalize zat r 3 = x3 at *
 generalize zat r 4 = x4 at *
 generalize zat r 5 = x5 at *
 generalize r.length = lr at *
 generalize n.length = ln at *
 have hdd : Below w.heap.size w w.drew := (Below.refl _ _).drew
 go_enter Tryz.func115, Tryz.ntmps115
 go_wp2_with fail
 refine wp_region_any hmx ?_
 obtain ⟨T, hT⟩ : ∃ T : Nat -> Nat -> Value, T = fun g => lkT [3, 4, 5, 6, 7, 8, 9, 10, 11, 12, 13, 14, 15, 16, 17, 18, 19, 20, 21, 22, 23, 24, 25, 26, 27, 28, 29, 30, 31, 32, 33, 34, 35, 36, 37, 38, 39, 40, 41, 42, 43, 44, 45, 46, 47, 48, 49, 50, 51, 52, 53, 54, 55, 56, 57, 58, 59, 60, 61, 62, 63, 64, 65, 66, 67, 68, 69, 70, 71, 72, 73, 74, 75, 76, 77, 78, 79, 80, 81, 82, 83, 84, 85, 86, 87, 88, 89, 2] [.pointer (some ⟨V, 0, none⟩), .pointer (some ⟨V, 0, none⟩), .pointer (some ⟨V, 0, none⟩), .pointer (some ⟨b, 0, none⟩), .pointer (some ⟨V, 0, none⟩), .pointer (some ⟨V, 0, none⟩), .pointer (some ⟨V, 0, none⟩), .pointer (some ⟨V, 4, none⟩), .slice (some ⟨br, orr, none⟩) lr cr, .pointer (some ⟨V, 0, none⟩), .func (.func 129) #[.pointer (some ⟨V, 0, none⟩)] #[], .int .i64 s0, .int .i64 t0, .pointer (some ⟨V, 0, none⟩), .pointer (some ⟨V, 0, none⟩), .pointer (some ⟨V, 0, none⟩), .pointer (some ⟨b, 0, none⟩), .pointer (some ⟨V, 0, none⟩), .pointer (some ⟨V, 0, none⟩), .pointer (some ⟨V, 4, none⟩), .slice (some ⟨br, orr, none⟩) lr cr, .pointer (some ⟨br, orr + 3, none⟩), .int .i64 x3, .pointer (some ⟨V, 0, none⟩), .pointer (some ⟨V, 0, none⟩), .pointer (some ⟨V, 0, none⟩), .pointer (some ⟨V, 4, none⟩), .slice (some ⟨br, orr, none⟩) lr cr, .pointer (some ⟨V, 0, none⟩), .func (.func 130) #[.pointer (some ⟨V, 0, none⟩)] #[], .int .i64 s1, .int .i64 t1, .pointer (some ⟨V, 0, none⟩), .pointer (some ⟨V, 0, none⟩), .pointer (some ⟨V, 0, none⟩), .pointer (some ⟨b, 0, none⟩), .pointer (some ⟨V, 0, none⟩), .pointer (some ⟨V, 0, none⟩), .pointer (some ⟨V, 4, none⟩), .slice (some ⟨br, orr, none⟩) lr cr, .pointer (some ⟨br, orr + 4, none⟩), .int .i64 x4, .pointer (some ⟨V, 0, none⟩), .pointer (some ⟨V, 0, none⟩), .pointer (some ⟨V, 0, none⟩), .pointer (some ⟨V, 4, none⟩), .slice (some ⟨br, orr, none⟩) lr cr, .pointer (some ⟨V, 0, none⟩), .func (.func 131) #[.pointer (some ⟨V, 0, none⟩)] #[], .int .i64 s2, .int .i64 t2, .pointer (some ⟨V, 0, none⟩), .pointer (some ⟨V, 0, none⟩), .pointer (some ⟨V, 0, none⟩), .pointer (some ⟨b, 0, none⟩), .pointer (some ⟨V, 0, none⟩), .pointer (some ⟨V, 0, none⟩), .pointer (some ⟨V, 4, none⟩), .slice (some ⟨br, orr, none⟩) lr cr, .pointer (some ⟨br, orr + 5, none⟩), .int .i64 x5, .pointer (some ⟨V, 0, none⟩), .pointer (some ⟨V, 0, none⟩), .pointer (some ⟨V, 0, none⟩), .pointer (some ⟨V, 4, none⟩), .slice (some ⟨br, orr, none⟩) lr cr, .pointer (some ⟨V, 0, none⟩), .func (.func 132) #[.pointer (some ⟨V, 0, none⟩)] #[], .int .i64 s3, .int .i64 t3, .pointer (some ⟨V, 0, none⟩), .pointer (some ⟨V, 0, none⟩), .pointer (some ⟨V, 0, none⟩), .pointer (some ⟨V, 4, none⟩), .slice (some ⟨br, orr, none⟩) lr cr, .pointer (some ⟨V, 0, none⟩), .func (.func 133) #[.pointer (some ⟨V, 0, none⟩)] #[], .int .i64 t4, .pointer (some ⟨V, 0, none⟩), .pointer (some ⟨V, 0, none⟩), .pointer (some ⟨V, 0, none⟩), .pointer (some ⟨V, 4, none⟩), .slice (some ⟨br, orr, none⟩) lr cr, .pointer (some ⟨V, 0, none⟩), .func (.func 134) #[.pointer (some ⟨V, 0, none⟩)] #[], .int .i64 t5, .slice (some ⟨g, 0, none⟩) 6 6, .slice (some ⟨g, 0, none⟩) 6 6] #[.pointer (some ⟨V, 0, none⟩), undef, .slice none 0 0, undef, undef, undef, undef, undef, undef, undef, undef, undef, undef, undef, undef, undef, undef, undef, undef, undef, undef, undef, undef, undef, undef, undef, undef, undef, undef, undef, undef, undef, undef, undef, undef, undef, undef, undef, undef, undef, undef, undef, undef, undef, undef, undef, undef, undef, undef, undef, undef, undef, undef, undef, undef, undef, undef, undef, undef, undef, undef, undef, undef, undef, undef, undef, undef, undef, undef, undef, undef, undef, undef, undef, undef, undef, undef, undef, undef, undef, undef, undef, undef, undef, undef, undef, undef, undef, undef, undef] := ⟨_, rfl⟩
 have q0 : ∀ g, T g 0 = .pointer (some ⟨V, 0, none⟩) := fun g => by rw [hT]; kernel_rfl
 have q2 : ∀ g, T g 2 = .slice (some ⟨g, 0, none⟩) 6 6 := fun g => by rw [hT]; kernel_rfl
 have q3 : ∀ g, T g 3 = .pointer (some ⟨V, 0, none⟩) := fun g => by rw [hT]; kernel_rfl
 have q4 : ∀ g, T g 4 = .pointer (some ⟨V, 0, none⟩) := fun g => by rw [hT]; kernel_rfl
 have q5 : ∀ g, T g 5 = .pointer (some ⟨V, 0, none⟩) := fun g => by rw [hT]; kernel_rfl
 have q6 : ∀ g, T g 6 = .pointer (some ⟨b, 0, none⟩) := fun g => by rw [hT]; kernel_rfl
 have q7 : ∀ g, T g 7 = .pointer (some ⟨V, 0, none⟩) := fun g => by rw [hT]; kernel_rfl
 have q8 : ∀ g, T g 8 = .pointer (some ⟨V, 0, none⟩) := fun g => by rw [hT]; kernel_rfl
 have q9 : ∀ g, T g 9 = .pointer (some ⟨V, 0, none⟩) := fun g => by rw [hT]; kernel_rfl
 have q10 : ∀ g, T g 10 = .pointer (some ⟨V, 4, none⟩) := fun g => by rw [hT]; kernel_rfl
 have q11 : ∀ g, T g 11 = .slice (some ⟨br, orr, none⟩) lr cr := fun g => by rw [hT]; kernel_rfl
 have q12 : ∀ g, T g 12 = .pointer (some ⟨V, 0, none⟩) := fun g => by rw [hT]; kernel_rfl
 have q13 : ∀ g, T g 13 = .func (.func 129) #[.pointer (some ⟨V, 0, none⟩)] #[] := fun g => by rw [hT]; kernel_rfl
 have q14 : ∀ g, T g 14 = .int .i64 s0 := fun g => by rw [hT]; kernel_rfl
 have q15 : ∀ g, T g 15 = .int .i64 t0 := fun g => by rw [hT]; kernel_rfl
 have q16 : ∀ g, T g 16 = .pointer (some ⟨V, 0, none⟩) := fun g => by rw [hT]; kernel_rfl
 have q17 : ∀ g, T g 17 = .pointer (some ⟨V, 0, none⟩) := fun g => by rw [hT]; kernel_rfl
 have q18 : ∀ g, T g 18 = .pointer (some ⟨V, 0, none⟩) := fun g => by rw [hT]; kernel_rfl
 have q19 : ∀ g, T g 19 = .pointer (some ⟨b, 0, none⟩) := fun g => by rw [hT]; kernel_rfl
 have q20 : ∀ g, T g 20 = .pointer (some ⟨V, 0, none⟩) := fun g => by rw [hT]; kernel_rfl
 have q21 : ∀ g, T g 21 = .pointer (some ⟨V, 0, none⟩) := fun g => by rw [hT]; kernel_rfl
 have q22 : ∀ g, T g 22 = .pointer (some ⟨V, 4, none⟩) := fun g => by rw [hT]; kernel_rfl
 have q23 : ∀ g, T g 23 = .slice (some ⟨br, orr, none⟩) lr cr := fun g => by rw [hT]; kernel_rfl
 have q24 : ∀ g, T g 24 = .pointer (some ⟨br, orr + 3, none⟩) := fun g => by rw [hT]; kernel_rfl
 have q25 : ∀ g, T g 25 = .int .i64 x3 := fun g => by rw [hT]; kernel_rfl
 have q26 : ∀ g, T g 26 = .pointer (some ⟨V, 0, none⟩) := fun g => by rw [hT]; kernel_rfl
 have q27 : ∀ g, T g 27 = .pointer (some ⟨V, 0, none⟩) := fun g => by rw [hT]; kernel_rfl
 have q28 : ∀ g, T g 28 = .pointer (some ⟨V, 0, none⟩) := fun g => by rw [hT]; kernel_rfl
 have q29 : ∀ g, T g 29 = .pointer (some ⟨V, 4, none⟩) := fun g => by rw [hT]; kernel_rfl
 have q30 : ∀ g, T g 30 = .slice (some ⟨br, orr, none⟩) lr cr := fun g => by rw [hT]; kernel_rfl
 have q31 : ∀ g, T g 31 = .pointer (some ⟨V, 0, none⟩) := fun g => by rw [hT]; kernel_rfl
 have q32 : ∀ g, T g 32 = .func (.func 130) #[.pointer (some ⟨V, 0, none⟩)] #[] := fun g => by rw [hT]; kernel_rfl
 have q33 : ∀ g, T g 33 = .int .i64 s1 := fun g => by rw [hT]; kernel_rfl
 have q34 : ∀ g, T g 34 = .int .i64 t1 := fun g => by rw [hT]; kernel_rfl
 have q35 : ∀ g, T g 35 = .pointer (some ⟨V, 0, none⟩) := fun g => by rw [hT]; kernel_rfl
 have q36 : ∀ g, T g 36 = .pointer (some ⟨V, 0, none⟩) := fun g => by rw [hT]; kernel_rfl
 have q37 : ∀ g, T g 37 = .pointer (some ⟨V, 0, none⟩) := fun g => by rw [hT]; kernel_rfl
 have q38 : ∀ g, T g 38 = .pointer (some ⟨b, 0, none⟩) := fun g => by rw [hT]; kernel_rfl
 have q39 : ∀ g, T g 39 = .pointer (some ⟨V, 0, none⟩) := fun g => by rw [hT]; kernel_rfl
 have q40 : ∀ g, T g 40 = .pointer (some ⟨V, 0, none⟩) := fun g => by rw [hT]; kernel_rfl
 have q41 : ∀ g, T g 41 = .pointer (some ⟨V, 4, none⟩) := fun g => by rw [hT]; kernel_rfl
 have q42 : ∀ g, T g 42 = .slice (some ⟨br, orr, none⟩) lr cr := fun g => by rw [hT]; kernel_rfl
 have q43 : ∀ g, T g 43 = .pointer (some ⟨br, orr + 4, none⟩) := fun g => by rw [hT]; kernel_rfl
 have q44 : ∀ g, T g 44 = .int .i64 x4 := fun g => by rw [hT]; kernel_rfl
 have q45 : ∀ g, T g 45 = .pointer (some ⟨V, 0, none⟩) := fun g => by rw [hT]; kernel_rfl
 have q46 : ∀ g, T g 46 = .pointer (some ⟨V, 0, none⟩) := fun g => by rw [hT]; kernel_rfl
 have q47 : ∀ g, T g 47 = .pointer (some ⟨V, 0, none⟩) := fun g => by rw [hT]; kernel_rfl
 have q48 : ∀ g, T g 48 = .pointer (some ⟨V, 4, none⟩) := fun g => by rw [hT]; kernel_rfl
 have q49 : ∀ g, T g 49 = .slice (some ⟨br, orr, none⟩) lr cr := fun g => by rw [hT]; kernel_rfl
 have q50 : ∀ g, T g 50 = .pointer (some ⟨V, 0, none⟩) := fun g => by rw [hT]; kernel_rfl
 have q51 : ∀ g, T g 51 = .func (.func 131) #[.pointer (some ⟨V, 0, none⟩)] #[] := fun g => by rw [hT]; kernel_rfl
 have q52 : ∀ g, T g 52 = .int .i64 s2 := fun g => by rw [hT]; kernel_rfl
 have q53 : ∀ g, T g 53 = .int .i64 t2 := fun g => by rw [hT]; kernel_rfl
 have q54 : ∀ g, T g 54 = .pointer (some ⟨V, 0, none⟩) := fun g => by rw [hT]; kernel_rfl
 have q55 : ∀ g, T g 55 = .pointer (some ⟨V, 0, none⟩) := fun g => by rw [hT]; kernel_rfl
 have q56 : ∀ g, T g 56 = .pointer (some ⟨V, 0, none⟩) := fun g => by rw [hT]; kernel_rfl
 have q57 : ∀ g, T g 57 = .pointer (some ⟨b, 0, none⟩) := fun g => by rw [hT]; kernel_rfl
 have q58 : ∀ g, T g 58 = .pointer (some ⟨V, 0, none⟩) := fun g => by rw [hT]; kernel_rfl
 have q59 : ∀ g, T g 59 = .pointer (some ⟨V, 0, none⟩) := fun g => by rw [hT]; kernel_rfl
 have q60 : ∀ g, T g 60 = .pointer (some ⟨V, 4, none⟩) := fun g => by rw [hT]; kernel_rfl
 have q61 : ∀ g, T g 61 = .slice (some ⟨br, orr, none⟩) lr cr := fun g => by rw [hT]; kernel_rfl
 have q62 : ∀ g, T g 62 = .pointer (some ⟨br, orr + 5, none⟩) := fun g => by rw [hT]; kernel_rfl
 have q63 : ∀ g, T g 63 = .int .i64 x5 := fun g => by rw [hT]; kernel_rfl
 have q64 : ∀ g, T g 64 = .pointer (some ⟨V, 0, none⟩) := fun g => by rw [hT]; kernel_rfl
 have q65 : ∀ g, T g 65 = .pointer (some ⟨V, 0, none⟩) := fun g => by rw [hT]; kernel_rfl
 have q66 : ∀ g, T g 66 = .pointer (some ⟨V, 0, none⟩) := fun g => by rw [hT]; kernel_rfl
 have q67 : ∀ g, T g 67 = .pointer (some ⟨V, 4, none⟩) := fun g => by rw [hT]; kernel_rfl
 have q68 : ∀ g, T g 68 = .slice (some ⟨br, orr, none⟩) lr cr := fun g => by rw [hT]; kernel_rfl
 have q69 : ∀ g, T g 69 = .pointer (some ⟨V, 0, none⟩) := fun g => by rw [hT]; kernel_rfl
 have q70 : ∀ g, T g 70 = .func (.func 132) #[.pointer (some ⟨V, 0, none⟩)] #[] := fun g => by rw [hT]; kernel_rfl
 have q71 : ∀ g, T g 71 = .int .i64 s3 := fun g => by rw [hT]; kernel_rfl
 have q72 : ∀ g, T g 72 = .int .i64 t3 := fun g => by rw [hT]; kernel_rfl
 have q73 : ∀ g, T g 73 = .pointer (some ⟨V, 0, none⟩) := fun g => by rw [hT]; kernel_rfl
 have q74 : ∀ g, T g 74 = .pointer (some ⟨V, 0, none⟩) := fun g => by rw [hT]; kernel_rfl
 have q75 : ∀ g, T g 75 = .pointer (some ⟨V, 0, none⟩) := fun g => by rw [hT]; kernel_rfl
 have q76 : ∀ g, T g 76 = .pointer (some ⟨V, 4, none⟩) := fun g => by rw [hT]; kernel_rfl
 have q77 : ∀ g, T g 77 = .slice (some ⟨br, orr, none⟩) lr cr := fun g => by rw [hT]; kernel_rfl
 have q78 : ∀ g, T g 78 = .pointer (some ⟨V, 0, none⟩) := fun g => by rw [hT]; kernel_rfl
 have q79 : ∀ g, T g 79 = .func (.func 133) #[.pointer (some ⟨V, 0, none⟩)] #[] := fun g => by rw [hT]; kernel_rfl
 have q80 : ∀ g, T g 80 = .int .i64 t4 := fun g => by rw [hT]; kernel_rfl
 have q81 : ∀ g, T g 81 = .pointer (some ⟨V, 0, none⟩) := fun g => by rw [hT]; kernel_rfl
 have q82 : ∀ g, T g 82 = .pointer (some ⟨V, 0, none⟩) := fun g => by rw [hT]; kernel_rfl
 have q83 : ∀ g, T g 83 = .pointer (some ⟨V, 0, none⟩) := fun g => by rw [hT]; kernel_rfl
 have q84 : ∀ g, T g 84 = .pointer (some ⟨V, 4, none⟩) := fun g => by rw [hT]; kernel_rfl
 have q85 : ∀ g, T g 85 = .slice (some ⟨br, orr, none⟩) lr cr := fun g => by rw [hT]; kernel_rfl
 have q86 : ∀ g, T g 86 = .pointer (some ⟨V, 0, none⟩) := fun g => by rw [hT]; kernel_rfl
 have q87 : ∀ g, T g 87 = .func (.func 134) #[.pointer (some ⟨V, 0, none⟩)] #[] := fun g => by rw [hT]; kernel_rfl
 have q88 : ∀ g, T g 88 = .int .i64 t5 := fun g => by rw [hT]; kernel_rfl
 have q89 : ∀ g, T g 89 = .slice (some ⟨g, 0, none⟩) 6 6 := fun g => by rw [hT]; kernel_rfl
 refine wp_region_vals [3, 4, 5, 6, 7, 8, 9, 10, 11, 12, 13, 14, 15, 16, 17, 18, 19, 20, 21, 22, 23, 24, 25, 26, 27, 28, 29, 30, 31, 32, 33, 34, 35, 36, 37, 38, 39, 40, 41, 42, 43, 44, 45, 46, 47, 48, 49, 50, 51, 52, 53, 54, 55, 56, 57, 58, 59, 60, 61, 62, 63, 64, 65, 66, 67, 68, 69, 70, 71, 72, 73, 74, 75, 76, 77, 78, 79, 80, 81, 82, 83, 84, 85, 86, 87, 88, 89, 2] (fun g => [.pointer (some ⟨V, 0, none⟩), .pointer (some ⟨V, 0, none⟩), .pointer (some ⟨V, 0, none⟩), .pointer (some ⟨b, 0, none⟩), .pointer (some ⟨V, 0, none⟩), .pointer (some ⟨V, 0, none⟩), .pointer (some ⟨V, 0, none⟩), .pointer (some ⟨V, 4, none⟩), .slice (some ⟨br, orr, none⟩) lr cr, .pointer (some ⟨V, 0, none⟩), .func (.func 129) #[.pointer (some ⟨V, 0, none⟩)] #[], .int .i64 s0, .int .i64 t0, .pointer (some ⟨V, 0, none⟩), .pointer (some ⟨V, 0, none⟩), .pointer (some ⟨V, 0, none⟩), .pointer (some ⟨b, 0, none⟩), .pointer (some ⟨V, 0, none⟩), .pointer (some ⟨V, 0, none⟩), .pointer (some ⟨V, 4, none⟩), .slice (some ⟨br, orr, none⟩) lr cr, .pointer (some ⟨br, orr + 3, none⟩), .int .i64 x3, .pointer (some ⟨V, 0, none⟩), .pointer (some ⟨V, 0, none⟩), .pointer (some ⟨V, 0, none⟩), .pointer (some ⟨V, 4, none⟩), .slice (some ⟨br, orr, none⟩) lr cr, .pointer (some ⟨V, 0, none⟩), .func (.func 130) #[.pointer (some ⟨V, 0, none⟩)] #[], .int .i64 s1, .int .i64 t1, .pointer (some ⟨V, 0, none⟩), .pointer (some ⟨V, 0, none⟩), .pointer (some ⟨V, 0, none⟩), .pointer (some ⟨b, 0, none⟩), .pointer (some ⟨V, 0, none⟩), .pointer (some ⟨V, 0, none⟩), .pointer (some ⟨V, 4, none⟩), .slice (some ⟨br, orr, none⟩) lr cr, .pointer (some ⟨br, orr + 4, none⟩), .int .i64 x4, .pointer (some ⟨V, 0, none⟩), .pointer (some ⟨V, 0, none⟩), .pointer (some ⟨V, 0, none⟩), .pointer (some ⟨V, 4, none⟩), .slice (some ⟨br, orr, none⟩) lr cr, .pointer (some ⟨V, 0, none⟩), .func (.func 131) #[.pointer (some ⟨V, 0, none⟩)] #[], .int .i64 s2, .int .i64 t2, .pointer (some ⟨V, 0, none⟩), .pointer (some ⟨V, 0, none⟩), .pointer (some ⟨V, 0, none⟩), .pointer (some ⟨b, 0, none⟩), .pointer (some ⟨V, 0, none⟩), .pointer (some ⟨V, 0, none⟩), .pointer (some ⟨V, 4, none⟩), .slice (some ⟨br, orr, none⟩) lr cr, .pointer (some ⟨br, orr + 5, none⟩), .int .i64 x5, .pointer (some ⟨V, 0, none⟩), .pointer (some ⟨V, 0, none⟩), .pointer (some ⟨V, 0, none⟩), .pointer (some ⟨V, 4, none⟩), .slice (some ⟨br, orr, none⟩) lr cr, .pointer (some ⟨V, 0, none⟩), .func (.func 132) #[.pointer (some ⟨V, 0, none⟩)] #[], .int .i64 s3, .int .i64 t3, .pointer (some ⟨V, 0, none⟩), .pointer (some ⟨V, 0, none⟩), .pointer (some ⟨V, 0, none⟩), .pointer (some ⟨V, 4, none⟩), .slice (some ⟨br, orr, none⟩) lr cr, .pointer (some ⟨V, 0, none⟩), .func (.func 133) #[.pointer (some ⟨V, 0, none⟩)] #[], .int .i64 t4, .pointer (some ⟨V, 0, none⟩), .pointer (some ⟨V, 0, none⟩), .pointer (some ⟨V, 0, none⟩), .pointer (some ⟨V, 4, none⟩), .slice (some ⟨br, orr, none⟩) lr cr, .pointer (some ⟨V, 0, none⟩), .func (.func 134) #[.pointer (some ⟨V, 0, none⟩)] #[], .int .i64 t5, .slice (some ⟨g, 0, none⟩) 6 6, .slice (some ⟨g, 0, none⟩) 6 6]) (fun W => Below w.heap.size w W) (fun g W => w.heap.size <= g /\ W.heap[g]? = some (.cells #[.int .i64 t0, .int .i64 t1, .int .i64 t2, .int .i64 t3, .int .i64 t4, .int .i64 t5] 3 (0, 0))) 86 _ _ T (fun g => by rw [hT]) (by kernel_rfl) (of_decide_eq_true (by kernel_rfl)) (by kernel_rfl) (by kernel_rfl) (by kernel_rfl) (by kernel_rfl) ⟨_, ⟨86, .data⟩, rfl, by simp, rfl, rfl⟩ (fun _ => by kernel_rfl) ?c1 (fun g W W' h hb => ⟨h.1, (hb.block g (Array.getElem?_eq_some_iff.1 h.2).1).trans h.2⟩) ?c2 ?c3 hdd
 case c1 =>
  intro g g' k hk
  rw [show ([(pz V), (pz V), (pz V), (pz b), (pz V), (pz V), (pz V), .pointer (some ⟨V, 4, none⟩), .slice (some ⟨br, orr, none⟩) lr cr, (pz V), .func (.func 129) #[(pz V)] #[], .int .i64 s0, .int .i64 t0, (pz V), (pz V), (pz V), (pz b), (pz V), (pz V), .pointer (some ⟨V, 4, none⟩), .slice (some ⟨br, orr, none⟩) lr cr, .pointer (some ⟨br, orr + 3, none⟩), .int .i64 x3, (pz V), (pz V), (pz V), .pointer (some ⟨V, 4, none⟩), .slice (some ⟨br, orr, none⟩) lr cr, (pz V), .func (.func 130) #[(pz V)] #[], .int .i64 s1, .int .i64 t1, (pz V), (pz V), (pz V), (pz b), (pz V), (pz V), .pointer (some ⟨V, 4, none⟩), .slice (some ⟨br, orr, none⟩) lr cr, .pointer (some ⟨br, orr + 4, none⟩), .int .i64 x4, (pz V), (pz V), (pz V), .pointer (some ⟨V, 4, none⟩), .slice (some ⟨br, orr, none⟩) lr cr, (pz V), .func (.func 131) #[(pz V)] #[], .int .i64 s2, .int .i64 t2, (pz V), (pz V), (pz V), (pz b), (pz V), (pz V), .pointer (some ⟨V, 4, none⟩), .slice (some ⟨br, orr, none⟩) lr cr, .pointer (some ⟨br, orr + 5, none⟩), .int .i64 x5, (pz V), (pz V), (pz V), .pointer (some ⟨V, 4, none⟩), .slice (some ⟨br, orr, none⟩) lr cr, (pz V), .func (.func 132) #[(pz V)] #[], .int .i64 s3, .int .i64 t3, (pz V), (pz V), (pz V), .pointer (some ⟨V, 4, none⟩), .slice (some ⟨br, orr, none⟩) lr cr, (pz V), .func (.func 133) #[(pz V)] #[], .int .i64 t4, (pz V), (pz V), (pz V), .pointer (some ⟨V, 4, none⟩), .slice (some ⟨br, orr, none⟩) lr cr, (pz V), .func (.func 134) #[(pz V)] #[], .int .i64 t5, .slice (some ⟨g, 0, none⟩) 6 6, .slice (some ⟨g, 0, none⟩) 6 6] : List Value) = [(pz V), (pz V), (pz V), (pz b), (pz V), (pz V), (pz V), .pointer (some ⟨V, 4, none⟩), .slice (some ⟨br, orr, none⟩) lr cr, (pz V), .func (.func 129) #[(pz V)] #[], .int .i64 s0, .int .i64 t0, (pz V), (pz V), (pz V), (pz b), (pz V), (pz V), .pointer (some ⟨V, 4, none⟩), .slice (some ⟨br, orr, none⟩) lr cr, .pointer (some ⟨br, orr + 3, none⟩), .int .i64 x3, (pz V), (pz V), (pz V), .pointer (some ⟨V, 4, none⟩), .slice (some ⟨br, orr, none⟩) lr cr, (pz V), .func (.func 130) #[(pz V)] #[], .int .i64 s1, .int .i64 t1, (pz V), (pz V), (pz V), (pz b), (pz V), (pz V), .pointer (some ⟨V, 4, none⟩), .slice (some ⟨br, orr, none⟩) lr cr, .pointer (some ⟨br, orr + 4, none⟩), .int .i64 x4, (pz V), (pz V), (pz V), .pointer (some ⟨V, 4, none⟩), .slice (some ⟨br, orr, none⟩) lr cr, (pz V), .func (.func 131) #[(pz V)] #[], .int .i64 s2, .int .i64 t2, (pz V), (pz V), (pz V), (pz b), (pz V), (pz V), .pointer (some ⟨V, 4, none⟩), .slice (some ⟨br, orr, none⟩) lr cr, .pointer (some ⟨br, orr + 5, none⟩), .int .i64 x5, (pz V), (pz V), (pz V), .pointer (some ⟨V, 4, none⟩), .slice (some ⟨br, orr, none⟩) lr cr, (pz V), .func (.func 132) #[(pz V)] #[], .int .i64 s3, .int .i64 t3, (pz V), (pz V), (pz V), .pointer (some ⟨V, 4, none⟩), .slice (some ⟨br, orr, none⟩) lr cr, (pz V), .func (.func 133) #[(pz V)] #[], .int .i64 t4, (pz V), (pz V), (pz V), .pointer (some ⟨V, 4, none⟩), .slice (some ⟨br, orr, none⟩) lr cr, (pz V), .func (.func 134) #[(pz V)] #[], .int .i64 t5] ++ [.slice (some ⟨g, 0, none⟩) 6 6, .slice (some ⟨g, 0, none⟩) 6 6] from by kernel_rfl, show ([(pz V), (pz V), (pz V), (pz b), (pz V), (pz V), (pz V), .pointer (some ⟨V, 4, none⟩), .slice (some ⟨br, orr, none⟩) lr cr, (pz V), .func (.func 129) #[(pz V)] #[], .int .i64 s0, .int .i64 t0, (pz V), (pz V), (pz V), (pz b), (pz V), (pz V), .pointer (some ⟨V, 4, none⟩), .slice (some ⟨br, orr, none⟩) lr cr, .pointer (some ⟨br, orr + 3, none⟩), .int .i64 x3, (pz V), (pz V), (pz V), .pointer (some ⟨V, 4, none⟩), .slice (some ⟨br, orr, none⟩) lr cr, (pz V), .func (.func 130) #[(pz V)] #[], .int .i64 s1, .int .i64 t1, (pz V), (pz V), (pz V), (pz b), (pz V), (pz V), .pointer (some ⟨V, 4, none⟩), .slice (some ⟨br, orr, none⟩) lr cr, .pointer (some ⟨br, orr + 4, none⟩), .int .i64 x4, (pz V), (pz V), (pz V), .pointer (some ⟨V, 4, none⟩), .slice (some ⟨br, orr, none⟩) lr cr, (pz V), .func (.func 131) #[(pz V)] #[], .int .i64 s2, .int .i64 t2, (pz V), (pz V), (pz V), (pz b), (pz V), (pz V), .pointer (some ⟨V, 4, none⟩), .slice (some ⟨br, orr, none⟩) lr cr, .pointer (some ⟨br, orr + 5, none⟩), .int .i64 x5, (pz V), (pz V), (pz V), .pointer (some ⟨V, 4, none⟩), .slice (some ⟨br, orr, none⟩) lr cr, (pz V), .func (.func 132) #[(pz V)] #[], .int .i64 s3, .int .i64 t3, (pz V), (pz V), (pz V), .pointer (some ⟨V, 4, none⟩), .slice (some ⟨br, orr, none⟩) lr cr, (pz V), .func (.func 133) #[(pz V)] #[], .int .i64 t4, (pz V), (pz V), (pz V), .pointer (some ⟨V, 4, none⟩), .slice (some ⟨br, orr, none⟩) lr cr, (pz V), .func (.func 134) #[(pz V)] #[], .int .i64 t5, .slice (some ⟨g', 0, none⟩) 6 6, .slice (some ⟨g', 0, none⟩) 6 6] : List Value) = [(pz V), (pz V), (pz V), (pz b), (pz V), (pz V), (pz V), .pointer (some ⟨V, 4, none⟩), .slice (some ⟨br, orr, none⟩) lr cr, (pz V), .func (.func 129) #[(pz V)] #[], .int .i64 s0, .int .i64 t0, (pz V), (pz V), (pz V), (pz b), (pz V), (pz V), .pointer (some ⟨V, 4, none⟩), .slice (some ⟨br, orr, none⟩) lr cr, .pointer (some ⟨br, orr + 3, none⟩), .int .i64 x3, (pz V), (pz V), (pz V), .pointer (some ⟨V, 4, none⟩), .slice (some ⟨br, orr, none⟩) lr cr, (pz V), .func (.func 130) #[(pz V)] #[], .int .i64 s1, .int .i64 t1, (pz V), (pz V), (pz V), (pz b), (pz V), (pz V), .pointer (some ⟨V, 4, none⟩), .slice (some ⟨br, orr, none⟩) lr cr, .pointer (some ⟨br, orr + 4, none⟩), .int .i64 x4, (pz V), (pz V), (pz V), .pointer (some ⟨V, 4, none⟩), .slice (some ⟨br, orr, none⟩) lr cr, (pz V), .func (.func 131) #[(pz V)] #[], .int .i64 s2, .int .i64 t2, (pz V), (pz V), (pz V), (pz b), (pz V), (pz V), .pointer (some ⟨V, 4, none⟩), .slice (some ⟨br, orr, none⟩) lr cr, .pointer (some ⟨br, orr + 5, none⟩), .int .i64 x5, (pz V), (pz V), (pz V), .pointer (some ⟨V, 4, none⟩), .slice (some ⟨br, orr, none⟩) lr cr, (pz V), .func (.func 132) #[(pz V)] #[], .int .i64 s3, .int .i64 t3, (pz V), (pz V), (pz V), .pointer (some ⟨V, 4, none⟩), .slice (some ⟨br, orr, none⟩) lr cr, (pz V), .func (.func 133) #[(pz V)] #[], .int .i64 t4, (pz V), (pz V), (pz V), .pointer (some ⟨V, 4, none⟩), .slice (some ⟨br, orr, none⟩) lr cr, (pz V), .func (.func 134) #[(pz V)] #[], .int .i64 t5] ++ [.slice (some ⟨g', 0, none⟩) 6 6, .slice (some ⟨g', 0, none⟩) 6 6] from by kernel_rfl]
  simp only [List.getD_eq_getElem?_getD]
  rw [List.getElem?_append_left (by simpa using hk), List.getElem?_append_left (by simpa using hk)]
 case c2 =>
  clear hT
  refine AllI.cons (gives_val (fun g W hS => by simp only [execOp, evT, Option.getD_some, q0, q3]; rfl)) ?_
  refine AllI.cons (gives_val (fun g W hS => by simp only [execOp, evT, Option.getD_some, q3, q4]; rfl)) ?_
  refine AllI.cons (gives_val (fun g W hS => by simp only [execOp, evT, Option.getD_some, q4, q5]; kernel_rfl)) ?_
  refine AllI.cons (gives_val (fun g W hS => by obtain ⟨c0, c1, c3, c4, c5, r3, r4, r5⟩ := HX.out W hS; simp only [execOp, evT, Option.getD_some, q5, q6]; go_simp)) ?_
  refine AllI.cons (gives_val (fun g W hS => by simp only [execOp, evT, Option.getD_some, q0, q7]; rfl)) ?_
  refine AllI.cons (gives_val (fun g W hS => by simp only [execOp, evT, Option.getD_some, q0, q8]; rfl)) ?_
  refine AllI.cons (gives_val (fun g W hS => by simp only [execOp, evT, Option.getD_some, q8, q9]; rfl)) ?_
  refine AllI.cons (gives_val (fun g W hS => by simp only [execOp, evT, Option.getD_some, q9, q10]; kernel_rfl)) ?_
  refine AllI.cons (gives_val (fun g W hS => by obtain ⟨c0, c1, c3, c4, c5, r3, r4, r5⟩ := HX.out W hS; simp only [execOp, evT, Option.getD_some, q10, q11]; go_simp)) ?_
  refine AllI.cons (gives_val (fun g W hS => by simp only [execOp, evT, Option.getD_some, q0, q12]; rfl)) ?_
  refine AllI.cons (gives_val (fun g W hS => by simp only [execOp, List.map_toArray, List.map_cons, List.map_nil, evT, Option.getD_some, q12, q13]; kernel_rfl)) ?_
  refine AllI.cons (gives_call (fun g W hS => by simp only [execOp, resolve, List.map_toArray, List.map_cons, List.map_nil, evT, q7, q11, q13]; kernel_rfl) (fun g W hS => by simp only [Option.getD_some, q14]; exact HC0.out W hS)) ?_
  refine AllI.cons (gives_call (fun g W hS => by simp only [execOp, resolve, List.map_toArray, List.map_cons, List.map_nil, evT, q6, q14]; kernel_rfl) (fun g W hS => by simp only [Option.getD_some, q15]; exact HC1.out W hS)) ?_
  refine AllI.cons (gives_val (fun g W hS => by simp only [execOp, evT, Option.getD_some, q0, q16]; rfl)) ?_
  refine AllI.cons (gives_val (fun g W hS => by simp only [execOp, evT, Option.getD_some, q16, q17]; rfl)) ?_
  refine AllI.cons (gives_val (fun g W hS => by simp only [execOp, evT, Option.getD_some, q17, q18]; kernel_rfl)) ?_
  refine AllI.cons (gives_val (fun g W hS => by obtain ⟨c0, c1, c3, c4, c5, r3, r4, r5⟩ := HX.out W hS; simp only [execOp, evT, Option.getD_some, q18, q19]; go_simp)) ?_
  refine AllI.cons (gives_val (fun g W hS => by simp only [execOp, evT, Option.getD_some, q0, q20]; rfl)) ?_
  refine AllI.cons (gives_val (fun g W hS => by simp only [execOp, evT, Option.getD_some, q20, q21]; rfl)) ?_
  refine AllI.cons (gives_val (fun g W hS => by simp only [execOp, evT, Option.getD_some, q21, q22]; kernel_rfl)) ?_
  refine AllI.cons (gives_val (fun g W hS => by obtain ⟨c0, c1, c3, c4, c5, r3, r4, r5⟩ := HX.out W hS; simp only [execOp, evT, Option.getD_some, q22, q23]; go_simp)) ?_
  refine AllI.cons (gives_val (fun g W hS => by simp only [execOp, evT, Option.getD_some, q23, q24]; go_simp)) ?_
  refine AllI.cons (gives_val (fun g W hS => by obtain ⟨c0, c1, c3, c4, c5, r3, r4, r5⟩ := HX.out W hS; simp only [execOp, evT, Option.getD_some, q24, q25]; go_simp)) ?_
  refine AllI.cons (gives_val (fun g W hS => by simp only [execOp, evT, Option.getD_some, q0, q26]; rfl)) ?_
  refine AllI.cons (gives_val (fun g W hS => by simp only [execOp, evT, Option.getD_some, q0, q27]; rfl)) ?_
  refine AllI.cons (gives_val (fun g W hS => by simp only [execOp, evT, Option.getD_some, q27, q28]; rfl)) ?_
  refine AllI.cons (gives_val (fun g W hS => by simp only [execOp, evT, Option.getD_some, q28, q29]; kernel_rfl)) ?_
  refine AllI.cons (gives_val (fun g W hS => by obtain ⟨c0, c1, c3, c4, c5, r3, r4, r5⟩ := HX.out W hS; simp only [execOp, evT, Option.getD_some, q29, q30]; go_simp)) ?_
  refine AllI.cons (gives_val (fun g W hS => by simp only [execOp, evT, Option.getD_some, q0, q31]; rfl)) ?_
  refine AllI.cons (gives_val (fun g W hS => by simp only [execOp, List.map_toArray, List.map_cons, List.map_nil, evT, Option.getD_some, q31, q32]; kernel_rfl)) ?_
  refine AllI.cons (gives_call (fun g W hS => by simp only [execOp, resolve, List.map_toArray, List.map_cons, List.map_nil, evT, q26, q30, q32]; kernel_rfl) (fun g W hS => by simp only [Option.getD_some, q33]; exact HC2.out W hS)) ?_
  refine AllI.cons (gives_call (fun g W hS => by simp only [execOp, resolve, List.map_toArray, List.map_cons, List.map_nil, evT, q19, q25, q33]; kernel_rfl) (fun g W hS => by simp only [Option.getD_some, q34]; exact HC3.out W hS)) ?_
  refine AllI.cons (gives_val (fun g W hS => by simp only [execOp, evT, Option.getD_some, q0, q35]; rfl)) ?_
  refine AllI.cons (gives_val (fun g W hS => by simp only [execOp, evT, Option.getD_some, q35, q36]; rfl)) ?_
  refine AllI.cons (gives_val (fun g W hS => by simp only [execOp, evT, Option.getD_some, q36, q37]; kernel_rfl)) ?_
  refine AllI.cons (gives_val (fun g W hS => by obtain ⟨c0, c1, c3, c4, c5, r3, r4, r5⟩ := HX.out W hS; simp only [execOp, evT, Option.getD_some, q37, q38]; go_simp)) ?_
  refine AllI.cons (gives_val (fun g W hS => by simp only [execOp, evT, Option.getD_some, q0, q39]; rfl)) ?_
  refine AllI.cons (gives_val (fun g W hS => by simp only [execOp, evT, Option.getD_some, q39, q40]; rfl)) ?_
  refine AllI.cons (gives_val (fun g W hS => by simp only [execOp, evT, Option.getD_some, q40, q41]; kernel_rfl)) ?_
  refine AllI.cons (gives_val (fun g W hS => by obtain ⟨c0, c1, c3, c4, c5, r3, r4, r5⟩ := HX.out W hS; simp only [execOp, evT, Option.getD_some, q41, q42]; go_simp)) ?_
  refine AllI.cons (gives_val (fun g W hS => by simp only [execOp, evT, Option.getD_some, q42, q43]; go_simp)) ?_
  refine AllI.cons (gives_val (fun g W hS => by obtain ⟨c0, c1, c3, c4, c5, r3, r4, r5⟩ := HX.out W hS; simp only [execOp, evT, Option.getD_some, q43, q44]; go_simp)) ?_
  refine AllI.cons (gives_val (fun g W hS => by simp only [execOp, evT, Option.getD_some, q0, q45]; rfl)) ?_
  refine AllI.cons (gives_val (fun g W hS => by simp only [execOp, evT, Option.getD_some, q0, q46]; rfl)) ?_
  refine AllI.cons (gives_val (fun g W hS => by simp only [execOp, evT, Option.getD_some, q46, q47]; rfl)) ?_
  refine AllI.cons (gives_val (fun g W hS => by simp only [execOp, evT, Option.getD_some, q47, q48]; kernel_rfl)) ?_
  refine AllI.cons (gives_val (fun g W hS => by obtain ⟨c0, c1, c3, c4, c5, r3, r4, r5⟩ := HX.out W hS; simp only [execOp, evT, Option.getD_some, q48, q49]; go_simp)) ?_
  refine AllI.cons (gives_val (fun g W hS => by simp only [execOp, evT, Option.getD_some, q0, q50]; rfl)) ?_
  refine AllI.cons (gives_val (fun g W hS => by simp only [execOp, List.map_toArray, List.map_cons, List.map_nil, evT, Option.getD_some, q50, q51]; kernel_rfl)) ?_
  refine AllI.cons (gives_call (fun g W hS => by simp only [execOp, resolve, List.map_toArray, List.map_cons, List.map_nil, evT, q45, q49, q51]; kernel_rfl) (fun g W hS => by simp only [Option.getD_some, q52]; exact HC4.out W hS)) ?_
  refine AllI.cons (gives_call (fun g W hS => by simp only [execOp, resolve, List.map_toArray, List.map_cons, List.map_nil, evT, q38, q44, q52]; kernel_rfl) (fun g W hS => by simp only [Option.getD_some, q53]; exact HC5.out W hS)) ?_
  refine AllI.cons (gives_val (fun g W hS => by simp only [execOp, evT, Option.getD_some, q0, q54]; rfl)) ?_
  refine AllI.cons (gives_val (fun g W hS => by simp only [execOp, evT, Option.getD_some, q54, q55]; rfl)) ?_
  refine AllI.cons (gives_val (fun g W hS => by simp only [execOp, evT, Option.getD_some, q55, q56]; kernel_rfl)) ?_
  refine AllI.cons (gives_val (fun g W hS => by obtain ⟨c0, c1, c3, c4, c5, r3, r4, r5⟩ := HX.out W hS; simp only [execOp, evT, Option.getD_some, q56, q57]; go_simp)) ?_
  refine AllI.cons (gives_val (fun g W hS => by simp only [execOp, evT, Option.getD_some, q0, q58]; rfl)) ?_
  refine AllI.cons (gives_val (fun g W hS => by simp only [execOp, evT, Option.getD_some, q58, q59]; rfl)) ?_
  refine AllI.cons (gives_val (fun g W hS => by simp only [execOp, evT, Option.getD_some, q59, q60]; kernel_rfl)) ?_
  refine AllI.cons (gives_val (fun g W hS => by obtain ⟨c0, c1, c3, c4, c5, r3, r4, r5⟩ := HX.out W hS; simp only [execOp, evT, Option.getD_some, q60, q61]; go_simp)) ?_
  refine AllI.cons (gives_val (fun g W hS => by simp only [execOp, evT, Option.getD_some, q61, q62]; go_simp)) ?_
  refine AllI.cons (gives_val (fun g W hS => by obtain ⟨c0, c1, c3, c4, c5, r3, r4, r5⟩ := HX.out W hS; simp only [execOp, evT, Option.getD_some, q62, q63]; go_simp)) ?_
  refine AllI.cons (gives_val (fun g W hS => by simp only [execOp, evT, Option.getD_some, q0, q64]; rfl)) ?_
  refine AllI.cons (gives_val (fun g W hS => by simp only [execOp, evT, Option.getD_some, q0, q65]; rfl)) ?_
  refine AllI.cons (gives_val (fun g W hS => by simp only [execOp, evT, Option.getD_some, q65, q66]; rfl)) ?_
  refine AllI.cons (gives_val (fun g W hS => by simp only [execOp, evT, Option.getD_some, q66, q67]; kernel_rfl)) ?_
  refine AllI.cons (gives_val (fun g W hS => by obtain ⟨c0, c1, c3, c4, c5, r3, r4, r5⟩ := HX.out W hS; simp only [execOp, evT, Option.getD_some, q67, q68]; go_simp)) ?_
  refine AllI.cons (gives_val (fun g W hS => by simp only [execOp, evT, Option.getD_some, q0, q69]; rfl)) ?_
  refine AllI.cons (gives_val (fun g W hS => by simp only [execOp, List.map_toArray, List.map_cons, List.map_nil, evT, Option.getD_some, q69, q70]; kernel_rfl)) ?_
  refine AllI.cons (gives_call (fun g W hS => by simp only [execOp, resolve, List.map_toArray, List.map_cons, List.map_nil, evT, q64, q68, q70]; kernel_rfl) (fun g W hS => by simp only [Option.getD_some, q71]; exact HC6.out W hS)) ?_
  refine AllI.cons (gives_call (fun g W hS => by simp only [execOp, resolve, List.map_toArray, List.map_cons, List.map_nil, evT, q57, q63, q71]; kernel_rfl) (fun g W hS => by simp only [Option.getD_some, q72]; exact HC7.out W hS)) ?_
  refine AllI.cons (gives_val (fun g W hS => by simp only [execOp, evT, Option.getD_some, q0, q73]; rfl)) ?_
  refine AllI.cons (gives_val (fun g W hS => by simp only [execOp, evT, Option.getD_some, q0, q74]; rfl)) ?_
  refine AllI.cons (gives_val (fun g W hS => by simp only [execOp, evT, Option.getD_some, q74, q75]; rfl)) ?_
  refine AllI.cons (gives_val (fun g W hS => by simp only [execOp, evT, Option.getD_some, q75, q76]; kernel_rfl)) ?_
  refine AllI.cons (gives_val (fun g W hS => by obtain ⟨c0, c1, c3, c4, c5, r3, r4, r5⟩ := HX.out W hS; simp only [execOp, evT, Option.getD_some, q76, q77]; go_simp)) ?_
  refine AllI.cons (gives_val (fun g W hS => by simp only [execOp, evT, Option.getD_some, q0, q78]; rfl)) ?_
  refine AllI.cons (gives_val (fun g W hS => by simp only [execOp, List.map_toArray, List.map_cons, List.map_nil, evT, Option.getD_some, q78, q79]; kernel_rfl)) ?_
  refine AllI.cons (gives_call (fun g W hS => by simp only [execOp, resolve, List.map_toArray, List.map_cons, List.map_nil, evT, q73, q77, q79]; kernel_rfl) (fun g W hS => by simp only [Option.getD_some, q80]; exact HC8.out W hS)) ?_
  refine AllI.cons (gives_val (fun g W hS => by simp only [execOp, evT, Option.getD_some, q0, q81]; rfl)) ?_
  refine AllI.cons (gives_val (fun g W hS => by simp only [execOp, evT, Option.getD_some, q0, q82]; rfl)) ?_
  refine AllI.cons (gives_val (fun g W hS => by simp only [execOp, evT, Option.getD_some, q82, q83]; rfl)) ?_
  refine AllI.cons (gives_val (fun g W hS => by simp only [execOp, evT, Option.getD_some, q83, q84]; kernel_rfl)) ?_
  refine AllI.cons (gives_val (fun g W hS => by obtain ⟨c0, c1, c3, c4, c5, r3, r4, r5⟩ := HX.out W hS; simp only [execOp, evT, Option.getD_some, q84, q85]; go_simp)) ?_
  refine AllI.cons (gives_val (fun g W hS => by simp only [execOp, evT, Option.getD_some, q0, q86]; rfl)) ?_
  refine AllI.cons (gives_val (fun g W hS => by simp only [execOp, List.map_toArray, List.map_cons, List.map_nil, evT, Option.getD_some, q86, q87]; kernel_rfl)) ?_
  refine AllI.cons (gives_call (fun g W hS => by simp only [execOp, resolve, List.map_toArray, List.map_cons, List.map_nil, evT, q81, q85, q87]; kernel_rfl) (fun g W hS => by simp only [Option.getD_some, q88]; exact HC9.out W hS)) ?_
  refine AllI.cons (fun g W a K hS hK => by
   simp only [execOp, evT]
   go_simp
   have hk := hK W.heap.size _ (Below.alloc hS hS.size _) ⟨hS.size, heap_alloc_new W _⟩
   simp only [Option.getD_some, q89] at hk
   exact hk) ?_
  refine AllI.cons (gives_val (fun g W hS => by simp only [execOp, evT, Option.getD_some, q2, q89]; rfl)) ?_
  exact AllI.nil
 case c3 =>
  intro g W hS hG
  rw [show putAll _ _ _ = #[(pz V), undef, .slice (some ⟨g, 0, none⟩) 6 6, (pz V), (pz V), (pz V), (pz b), (pz V), (pz V), (pz V), .pointer (some ⟨V, 4, none⟩), .slice (some ⟨br, orr, none⟩) lr cr, (pz V), .func (.func 129) #[(pz V)] #[], .int .i64 s0, .int .i64 t0, (pz V), (pz V), (pz V), (pz b), (pz V), (pz V), .pointer (some ⟨V, 4, none⟩), .slice (some ⟨br, orr, none⟩) lr cr, .pointer (some ⟨br, orr + 3, none⟩), .int .i64 x3, (pz V), (pz V), (pz V), .pointer (some ⟨V, 4, none⟩), .slice (some ⟨br, orr, none⟩) lr cr, (pz V), .func (.func 130) #[(pz V)] #[], .int .i64 s1, .int .i64 t1, (pz V), (pz V), (pz V), (pz b), (pz V), (pz V), .pointer (some ⟨V, 4, none⟩), .slice (some ⟨br, orr, none⟩) lr cr, .pointer (some ⟨br, orr + 4, none⟩), .int .i64 x4, (pz V), (pz V), (pz V), .pointer (some ⟨V, 4, none⟩), .slice (some ⟨br, orr, none⟩) lr cr, (pz V), .func (.func 131) #[(pz V)] #[], .int .i64 s2, .int .i64 t2, (pz V), (pz V), (pz V), (pz b), (pz V), (pz V), .pointer (some ⟨V, 4, none⟩), .slice (some ⟨br, orr, none⟩) lr cr, .pointer (some ⟨br, orr + 5, none⟩), .int .i64 x5, (pz V), (pz V), (pz V), .pointer (some ⟨V, 4, none⟩), .slice (some ⟨br, orr, none⟩) lr cr, (pz V), .func (.func 132) #[(pz V)] #[], .int .i64 s3, .int .i64 t3, (pz V), (pz V), (pz V), .pointer (some ⟨V, 4, none⟩), .slice (some ⟨br, orr, none⟩) lr cr, (pz V), .func (.func 133) #[(pz V)] #[], .int .i64 t4, (pz V), (pz V), (pz V), .pointer (some ⟨V, 4, none⟩), .slice (some ⟨br, orr, none⟩) lr cr, (pz V), .func (.func 134) #[(pz V)] #[], .int .i64 t5, .slice (some ⟨g, 0, none⟩) 6 6] from by kernel_rfl]
  go_wp2_with fail
  exact HRR.out g _ _ hS hG.1 hG.2 rfl
end Go.Proofs.YtjlngcmkgkiplaaGreatDoor
