
import Derived.Test.YtjlngcmkgkiplaaGreatDoorWcAT
set_option maxRecDepth 1000000
set_option maxHeartbeats 8000000
namespace Go.Proofs.YtjlngcmkgkiplaaGreatDoor
open Go.RowKit Go.Maps
theorem vonward_any (p b V : Nat) (L : List InsZ) (size out : Int) (r n : List Int) (aL : Option Addr) (cL : Nat) (ar : Option Addr) (cr : Nat) (an : Option Addr) (cn : Nat) (w : World) (H : VF p L size out r n) (hV : VW p b V L size out r n aL cL ar cr an cn w) :
  Calls Tryz.prog 117 #[.pointer (some ⟨V, 0, none⟩)] w (NewL [(smt p L n (fun k _ => (k : Int)) - smt p L r (tvN p r)) % (p : Int), (zat n 0 - smt p L r (fun _ => tvF p r)) % (p : Int), (zat n 1 - smt p L r (fun _ => tvA p r)) % (p : Int), (zat n 2 - smt p L r (fun _ => tvR r)) % (p : Int)] w) := by
 have hmx : Tryz.prog.follows .mixedOrders = true := by kernel_rfl
 have h3 := H.h3
 have h4 := H.h4
 have e := em_I64 h3 h4
 have es := fun s f => (show I64 (smt p L s f) by have := smt_bd h3 L s f; unfold I64; omega)
 obtain ⟨br, orr, har, hrw⟩ := hV.rowAt H.hr
 subst har
 obtain ⟨bn, onn, han, hnw⟩ := hV.nxtAt H.hn
 subst han
 obtain ⟨R, hR⟩ := exE (NewL [(smt p L n (fun k _ => (k : Int)) - smt p L r (tvN p r)) % (p : Int), (zat n 0 - smt p L r (fun _ => tvF p r)) % (p : Int), (zat n 1 - smt p L r (fun _ => tvA p r)) % (p : Int), (zat n 2 - smt p L r (fun _ => tvR r)) % (p : Int)] w)
 rw [<- hR]
 have HRR : Hid (∀ (g : Nat) (e : Ending) (w' : World), Below w.heap.size w w' -> w.heap.size <= g -> w'.heap[g]? = some (.cells #[.int .i64 ((smt p L n (fun k _ => (k : Int)) - smt p L r (tvN p r)) % (p : Int)), .int .i64 ((zat n 0 - smt p L r (fun _ => tvF p r)) % (p : Int)), .int .i64 ((zat n 1 - smt p L r (fun _ => tvA p r)) % (p : Int)), .int .i64 ((zat n 2 - smt p L r (fun _ => tvR r)) % (p : Int))] 3 (0, 0)) -> e = .returned (.slice (some ⟨g, 0, none⟩) 4 4) -> R e w') := fun g e w' h1 h2 h4 h5 => by
  rw [hR, h5]
  exact ⟨g, rfl, h2, h4, h1⟩
 have hh1 := H.h1
 have HX : Hid (∀ W, Below w.heap.size w W -> (W.cell? ⟨V, 0, none⟩ = some (.pointer (some ⟨b, 0, none⟩)) /\ W.cell? ⟨V, 1, none⟩ = some (.int .i64 size) /\ W.cell? ⟨V, 3, none⟩ = some (.int .i64 out) /\ W.cell? ⟨V, 4, none⟩ = some (.slice (some ⟨br, orr, none⟩) r.length cr) /\ W.cell? ⟨V, 5, none⟩ = some (.slice (some ⟨bn, onn, none⟩) n.length cn) /\ W.cell? ⟨bn, onn, none⟩ = some (.int .i64 (zat n 0)) /\ W.cell? ⟨bn, onn + 1, none⟩ = some (.int .i64 (zat n 1)) /\ W.cell? ⟨bn, onn + 2, none⟩ = some (.int .i64 (zat n 2)))) := fun W h => by
  have hc := (hV.below h).cells
  exact ⟨hc.1, hc.2.1, hc.2.2.2.1, hc.2.2.2.2.1, hc.2.2.2.2.2, (h.cell (p := ⟨bn, onn, none⟩) (World.block_lt_of_cell? _ _ (hnw 0 (by omega)))).trans (hnw 0 (by omega)), (h.cell (p := ⟨bn, onn + 1, none⟩) (World.block_lt_of_cell? _ _ (hnw 1 (by omega)))).trans (hnw 1 (by omega)), (h.cell (p := ⟨bn, onn + 2, none⟩) (World.block_lt_of_cell? _ _ (hnw 2 (by omega)))).trans (hnw 2 (by omega))⟩
 have m0 : (0 : Int) < (n.length : Int) := by have := H.hn; omega
 have m0' : 0 < n.length := by have := H.hn; omega
 have m1 : (1 : Int) < (n.length : Int) := by have := H.hn; omega
 have m1' : 1 < n.length := by have := H.hn; omega
 have m2 : (2 : Int) < (n.length : Int) := by have := H.hn; omega
 have HC0 : Hid (∀ W, Below w.heap.size w W -> Calls Tryz.prog 128 #[.pointer (some ⟨V, 0, none⟩), .slice (some ⟨bn, onn, none⟩) n.length cn, .func (.func 135) #[.pointer (some ⟨V, 0, none⟩)] #[]] W fun e w' => e = .returned (.int .i64 (smt p L n (fun k _ => (k : Int)))) /\ Below w.heap.size w w' /\ Below W.heap.size W w') := fun W h => (vsum_any p b V L size out r n aL cL (some ⟨br, orr, none⟩) cr (some ⟨bn, onn, none⟩) cn W H (hV.below h) n (some ⟨bn, onn, none⟩) cn (hV.below h).nxt H.hn H.fn _ _ (tm_number p b V L size out r n aL cL (some ⟨br, orr, none⟩) cr (some ⟨bn, onn, none⟩) cn W H (hV.below h))).mono (fun _ _ hh => ⟨hh.1, h.trans (hh.2.mono h.size), hh.2⟩)
 have HC1 : Hid (∀ W, Below w.heap.size w W -> Calls Tryz.prog 128 #[.pointer (some ⟨V, 0, none⟩), .slice (some ⟨br, orr, none⟩) r.length cr, .func (.func 136) #[.pointer (some ⟨V, 0, none⟩)] #[]] W fun e w' => e = .returned (.int .i64 (smt p L r (tvN p r))) /\ Below w.heap.size w w' /\ Below W.heap.size W w') := fun W h => (vsum_any p b V L size out r n aL cL (some ⟨br, orr, none⟩) cr (some ⟨bn, onn, none⟩) cn W H (hV.below h) r (some ⟨br, orr, none⟩) cr (hV.below h).row H.hr H.fr _ _ (tm_pc p b V L size out r n aL cL (some ⟨br, orr, none⟩) cr (some ⟨bn, onn, none⟩) cn W H (hV.below h))).mono (fun _ _ hh => ⟨hh.1, h.trans (hh.2.mono h.size), hh.2⟩)
 have HC2 : Hid (∀ W, Below w.heap.size w W -> Calls Tryz.prog 52 #[.pointer (some ⟨b, 0, none⟩), .int .i64 (smt p L n (fun k _ => (k : Int))), .int .i64 (smt p L r (tvN p r))] W fun e w' => e = .returned (.int .i64 (((smt p L n (fun k _ => (k : Int))) - smt p L r (tvN p r)) % (p : Int))) /\ Below w.heap.size w w' /\ Below W.heap.size W w') := fun W h => (sub_any p b _ _ W h3 h4 (hV.below h).fld (es _ _).1 (es _ _).2 (es _ _).1 (es _ _).2).mono (fun _ _ hh => ⟨hh.1, hh.2 ▸ h, hh.2 ▸ Below.refl _ _⟩)
 have HC3 : Hid (∀ W, Below w.heap.size w W -> Calls Tryz.prog 128 #[.pointer (some ⟨V, 0, none⟩), .slice (some ⟨br, orr, none⟩) r.length cr, .func (.func 137) #[.pointer (some ⟨V, 0, none⟩)] #[]] W fun e w' => e = .returned (.int .i64 (smt p L r (fun _ => tvF p r))) /\ Below w.heap.size w w' /\ Below W.heap.size W w') := fun W h => (vsum_any p b V L size out r n aL cL (some ⟨br, orr, none⟩) cr (some ⟨bn, onn, none⟩) cn W H (hV.below h) r (some ⟨br, orr, none⟩) cr (hV.below h).row H.hr H.fr _ _ (tm_fp p b V L size out r n aL cL (some ⟨br, orr, none⟩) cr (some ⟨bn, onn, none⟩) cn W H (hV.below h))).mono (fun _ _ hh => ⟨hh.1, h.trans (hh.2.mono h.size), hh.2⟩)
 have HC4 : Hid (∀ W, Below w.heap.size w W -> Calls Tryz.prog 52 #[.pointer (some ⟨b, 0, none⟩), .int .i64 (zat n 0), .int .i64 (smt p L r (fun _ => tvF p r))] W fun e w' => e = .returned (.int .i64 ((zat n 0 - smt p L r (fun _ => tvF p r)) % (p : Int))) /\ Below w.heap.size w w' /\ Below W.heap.size W w') := fun W h => (sub_any p b _ _ W h3 h4 (hV.below h).fld (H.fn 0).1 (H.fn 0).2 (es _ _).1 (es _ _).2).mono (fun _ _ hh => ⟨hh.1, hh.2 ▸ h, hh.2 ▸ Below.refl _ _⟩)
 have HC5 : Hid (∀ W, Below w.heap.size w W -> Calls Tryz.prog 128 #[.pointer (some ⟨V, 0, none⟩), .slice (some ⟨br, orr, none⟩) r.length cr, .func (.func 138) #[.pointer (some ⟨V, 0, none⟩)] #[]] W fun e w' => e = .returned (.int .i64 (smt p L r (fun _ => tvA p r))) /\ Below w.heap.size w w' /\ Below W.heap.size W w') := fun W h => (vsum_any p b V L size out r n aL cL (some ⟨br, orr, none⟩) cr (some ⟨bn, onn, none⟩) cn W H (hV.below h) r (some ⟨br, orr, none⟩) cr (hV.below h).row H.hr H.fr _ _ (tm_ap p b V L size out r n aL cL (some ⟨br, orr, none⟩) cr (some ⟨bn, onn, none⟩) cn W H (hV.below h))).mono (fun _ _ hh => ⟨hh.1, h.trans (hh.2.mono h.size), hh.2⟩)
 have HC6 : Hid (∀ W, Below w.heap.size w W -> Calls Tryz.prog 52 #[.pointer (some ⟨b, 0, none⟩), .int .i64 (zat n 1), .int .i64 (smt p L r (fun _ => tvA p r))] W fun e w' => e = .returned (.int .i64 ((zat n 1 - smt p L r (fun _ => tvA p r)) % (p : Int))) /\ Below w.heap.size w w' /\ Below W.heap.size W w') := fun W h => (sub_any p b _ _ W h3 h4 (hV.below h).fld (H.fn 1).1 (H.fn 1).2 (es _ _).1 (es _ _).2).mono (fun _ _ hh => ⟨hh.1, hh.2 ▸ h, hh.2 ▸ Below.refl _ _⟩)
 have HC7 : Hid (∀ W, Below w.heap.size w W -> Calls Tryz.prog 128 #[.pointer (some ⟨V, 0, none⟩), .slice (some ⟨br, orr, none⟩) r.length cr, .func (.func 139) #[.pointer (some ⟨V, 0, none⟩)] #[]] W fun e w' => e = .returned (.int .i64 (smt p L r (fun _ => tvR r))) /\ Below w.heap.size w w' /\ Below W.heap.size W w') := fun W h => (vsum_any p b V L size out r n aL cL (some ⟨br, orr, none⟩) cr (some ⟨bn, onn, none⟩) cn W H (hV.below h) r (some ⟨br, orr, none⟩) cr (hV.below h).row H.hr H.fr _ _ (tm_rv p b V L size out r n aL cL (some ⟨br, orr, none⟩) cr (some ⟨bn, onn, none⟩) cn W H (hV.below h))).mono (fun _ _ hh => ⟨hh.1, h.trans (hh.2.mono h.size), hh.2⟩)
 have HC8 : Hid (∀ W, Below w.heap.size w W -> Calls Tryz.prog 52 #[.pointer (some ⟨b, 0, none⟩), .int .i64 (zat n 2), .int .i64 (smt p L r (fun _ => tvR r))] W fun e w' => e = .returned (.int .i64 ((zat n 2 - smt p L r (fun _ => tvR r)) % (p : Int))) /\ Below w.heap.size w w' /\ Below W.heap.size W w') := fun W h => (sub_any p b _ _ W h3 h4 (hV.below h).fld (H.fn 2).1 (H.fn 2).2 (es _ _).1 (es _ _).2).mono (fun _ _ hh => ⟨hh.1, hh.2 ▸ h, hh.2 ▸ Below.refl _ _⟩)
 clear hR H hV hrw hnw e es hh1
 generalize (zat n 2 - smt p L r (fun _ => tvR r)) % (p : Int) = t3 at *
 generalize smt p L r (fun _ => tvR r) = s4 at *
 generalize (zat n 1 - smt p L r (fun _ => tvA p r)) % (p : Int) = t2 at *
 generalize smt p L r (fun _ => tvA p r) = s3 at *
 generalize (zat n 0 - smt p L r (fun _ => tvF p r)) % (p : Int) = t1 at *
 generalize smt p L r (fun _ => tvF p r) = s2 at *
 generalize ((smt p L n (fun k _ => (k : Int))) - smt p L r (tvN p r)) % (p : Int) = t0 at *
 generalize smt p L r (tvN p r) = s1 at *
 generalize smt p L n (fun k _ => (k : Int)) = s0 at *
 generalize zat n 0 = y0 at *
 generalize zat n 1 = y1 at *
 generalize zat n 2 = y2 at *
 generalize r.length = lr at *
 generalize n.length = ln at *
 have hdd : Below w.heap.size w w.drew := (Below.refl _ _).drew
 go_enter Tryz.func117, Tryz.ntmps117
 go_wp2_with fail
 refine wp_region_any hmx ?_
 obtain ⟨T, hT⟩ : ∃ T : Nat -> Nat -> Value, T = fun g => lkT [3, 4, 5, 6, 7, 8, 9, 10, 11, 12, 13, 14, 15, 16, 17, 18, 19, 20, 21, 22, 23, 24, 25, 26, 27, 28, 29, 30, 31, 32, 33, 34, 35, 36, 37, 38, 39, 40, 41, 42, 43, 44, 45, 46, 47, 48, 49, 50, 51, 52, 53, 54, 55, 56, 57, 58, 59, 60, 61, 62, 63, 64, 65, 66, 67, 68, 69, 70, 71, 72, 73, 74, 75, 76, 77, 78, 79, 80, 81, 2] [.pointer (some ⟨V, 0, none⟩), .pointer (some ⟨V, 0, none⟩), .pointer (some ⟨V, 0, none⟩), .pointer (some ⟨b, 0, none⟩), .pointer (some ⟨V, 0, none⟩), .pointer (some ⟨V, 0, none⟩), .pointer (some ⟨V, 0, none⟩), .pointer (some ⟨V, 5, none⟩), .slice (some ⟨bn, onn, none⟩) ln cn, .pointer (some ⟨V, 0, none⟩), .func (.func 135) #[.pointer (some ⟨V, 0, none⟩)] #[], .int .i64 s0, .pointer (some ⟨V, 0, none⟩), .pointer (some ⟨V, 0, none⟩), .pointer (some ⟨V, 0, none⟩), .pointer (some ⟨V, 4, none⟩), .slice (some ⟨br, orr, none⟩) lr cr, .pointer (some ⟨V, 0, none⟩), .func (.func 136) #[.pointer (some ⟨V, 0, none⟩)] #[], .int .i64 s1, .int .i64 t0, .pointer (some ⟨V, 0, none⟩), .pointer (some ⟨V, 0, none⟩), .pointer (some ⟨V, 0, none⟩), .pointer (some ⟨b, 0, none⟩), .pointer (some ⟨V, 0, none⟩), .pointer (some ⟨V, 0, none⟩), .pointer (some ⟨V, 5, none⟩), .slice (some ⟨bn, onn, none⟩) ln cn, .pointer (some ⟨bn, onn, none⟩), .int .i64 y0, .pointer (some ⟨V, 0, none⟩), .pointer (some ⟨V, 0, none⟩), .pointer (some ⟨V, 0, none⟩), .pointer (some ⟨V, 4, none⟩), .slice (some ⟨br, orr, none⟩) lr cr, .pointer (some ⟨V, 0, none⟩), .func (.func 137) #[.pointer (some ⟨V, 0, none⟩)] #[], .int .i64 s2, .int .i64 t1, .pointer (some ⟨V, 0, none⟩), .pointer (some ⟨V, 0, none⟩), .pointer (some ⟨V, 0, none⟩), .pointer (some ⟨b, 0, none⟩), .pointer (some ⟨V, 0, none⟩), .pointer (some ⟨V, 0, none⟩), .pointer (some ⟨V, 5, none⟩), .slice (some ⟨bn, onn, none⟩) ln cn, .pointer (some ⟨bn, onn + 1, none⟩), .int .i64 y1, .pointer (some ⟨V, 0, none⟩), .pointer (some ⟨V, 0, none⟩), .pointer (some ⟨V, 0, none⟩), .pointer (some ⟨V, 4, none⟩), .slice (some ⟨br, orr, none⟩) lr cr, .pointer (some ⟨V, 0, none⟩), .func (.func 138) #[.pointer (some ⟨V, 0, none⟩)] #[], .int .i64 s3, .int .i64 t2, .pointer (some ⟨V, 0, none⟩), .pointer (some ⟨V, 0, none⟩), .pointer (some ⟨V, 0, none⟩), .pointer (some ⟨b, 0, none⟩), .pointer (some ⟨V, 0, none⟩), .pointer (some ⟨V, 0, none⟩), .pointer (some ⟨V, 5, none⟩), .slice (some ⟨bn, onn, none⟩) ln cn, .pointer (some ⟨bn, onn + 2, none⟩), .int .i64 y2, .pointer (some ⟨V, 0, none⟩), .pointer (some ⟨V, 0, none⟩), .pointer (some ⟨V, 0, none⟩), .pointer (some ⟨V, 4, none⟩), .slice (some ⟨br, orr, none⟩) lr cr, .pointer (some ⟨V, 0, none⟩), .func (.func 139) #[.pointer (some ⟨V, 0, none⟩)] #[], .int .i64 s4, .int .i64 t3, .slice (some ⟨g, 0, none⟩) 4 4, .slice (some ⟨g, 0, none⟩) 4 4] #[.pointer (some ⟨V, 0, none⟩), undef, .slice none 0 0, undef, undef, undef, undef, undef, undef, undef, undef, undef, undef, undef, undef, undef, undef, undef, undef, undef, undef, undef, undef, undef, undef, undef, undef, undef, undef, undef, undef, undef, undef, undef, undef, undef, undef, undef, undef, undef, undef, undef, undef, undef, undef, undef, undef, undef, undef, undef, undef, undef, undef, undef, undef, undef, undef, undef, undef, undef, undef, undef, undef, undef, undef, undef, undef, undef, undef, undef, undef, undef, undef, undef, undef, undef, undef, undef, undef, undef, undef, undef] := ⟨_, rfl⟩
 have q0 : ∀ g, T g 0 = .pointer (some ⟨V, 0, none⟩) := fun g => by rw [hT]; kernel_rfl
 have q2 : ∀ g, T g 2 = .slice (some ⟨g, 0, none⟩) 4 4 := fun g => by rw [hT]; kernel_rfl
 have q3 : ∀ g, T g 3 = .pointer (some ⟨V, 0, none⟩) := fun g => by rw [hT]; kernel_rfl
 have q4 : ∀ g, T g 4 = .pointer (some ⟨V, 0, none⟩) := fun g => by rw [hT]; kernel_rfl
 have q5 : ∀ g, T g 5 = .pointer (some ⟨V, 0, none⟩) := fun g => by rw [hT]; kernel_rfl
 have q6 : ∀ g, T g 6 = .pointer (some ⟨b, 0, none⟩) := fun g => by rw [hT]; kernel_rfl
 have q7 : ∀ g, T g 7 = .pointer (some ⟨V, 0, none⟩) := fun g => by rw [hT]; kernel_rfl
 have q8 : ∀ g, T g 8 = .pointer (some ⟨V, 0, none⟩) := fun g => by rw [hT]; kernel_rfl
 have q9 : ∀ g, T g 9 = .pointer (some ⟨V, 0, none⟩) := fun g => by rw [hT]; kernel_rfl
 have q10 : ∀ g, T g 10 = .pointer (some ⟨V, 5, none⟩) := fun g => by rw [hT]; kernel_rfl
 have q11 : ∀ g, T g 11 = .slice (some ⟨bn, onn, none⟩) ln cn := fun g => by rw [hT]; kernel_rfl
 have q12 : ∀ g, T g 12 = .pointer (some ⟨V, 0, none⟩) := fun g => by rw [hT]; kernel_rfl
 have q13 : ∀ g, T g 13 = .func (.func 135) #[.pointer (some ⟨V, 0, none⟩)] #[] := fun g => by rw [hT]; kernel_rfl
 have q14 : ∀ g, T g 14 = .int .i64 s0 := fun g => by rw [hT]; kernel_rfl
 have q15 : ∀ g, T g 15 = .pointer (some ⟨V, 0, none⟩) := fun g => by rw [hT]; kernel_rfl
 have q16 : ∀ g, T g 16 = .pointer (some ⟨V, 0, none⟩) := fun g => by rw [hT]; kernel_rfl
 have q17 : ∀ g, T g 17 = .pointer (some ⟨V, 0, none⟩) := fun g => by rw [hT]; kernel_rfl
 have q18 : ∀ g, T g 18 = .pointer (some ⟨V, 4, none⟩) := fun g => by rw [hT]; kernel_rfl
 have q19 : ∀ g, T g 19 = .slice (some ⟨br, orr, none⟩) lr cr := fun g => by rw [hT]; kernel_rfl
 have q20 : ∀ g, T g 20 = .pointer (some ⟨V, 0, none⟩) := fun g => by rw [hT]; kernel_rfl
 have q21 : ∀ g, T g 21 = .func (.func 136) #[.pointer (some ⟨V, 0, none⟩)] #[] := fun g => by rw [hT]; kernel_rfl
 have q22 : ∀ g, T g 22 = .int .i64 s1 := fun g => by rw [hT]; kernel_rfl
 have q23 : ∀ g, T g 23 = .int .i64 t0 := fun g => by rw [hT]; kernel_rfl
 have q24 : ∀ g, T g 24 = .pointer (some ⟨V, 0, none⟩) := fun g => by rw [hT]; kernel_rfl
 have q25 : ∀ g, T g 25 = .pointer (some ⟨V, 0, none⟩) := fun g => by rw [hT]; kernel_rfl
 have q26 : ∀ g, T g 26 = .pointer (some ⟨V, 0, none⟩) := fun g => by rw [hT]; kernel_rfl
 have q27 : ∀ g, T g 27 = .pointer (some ⟨b, 0, none⟩) := fun g => by rw [hT]; kernel_rfl
 have q28 : ∀ g, T g 28 = .pointer (some ⟨V, 0, none⟩) := fun g => by rw [hT]; kernel_rfl
 have q29 : ∀ g, T g 29 = .pointer (some ⟨V, 0, none⟩) := fun g => by rw [hT]; kernel_rfl
 have q30 : ∀ g, T g 30 = .pointer (some ⟨V, 5, none⟩) := fun g => by rw [hT]; kernel_rfl
 have q31 : ∀ g, T g 31 = .slice (some ⟨bn, onn, none⟩) ln cn := fun g => by rw [hT]; kernel_rfl
 have q32 : ∀ g, T g 32 = .pointer (some ⟨bn, onn, none⟩) := fun g => by rw [hT]; kernel_rfl
 have q33 : ∀ g, T g 33 = .int .i64 y0 := fun g => by rw [hT]; kernel_rfl
 have q34 : ∀ g, T g 34 = .pointer (some ⟨V, 0, none⟩) := fun g => by rw [hT]; kernel_rfl
 have q35 : ∀ g, T g 35 = .pointer (some ⟨V, 0, none⟩) := fun g => by rw [hT]; kernel_rfl
 have q36 : ∀ g, T g 36 = .pointer (some ⟨V, 0, none⟩) := fun g => by rw [hT]; kernel_rfl
 have q37 : ∀ g, T g 37 = .pointer (some ⟨V, 4, none⟩) := fun g => by rw [hT]; kernel_rfl
 have q38 : ∀ g, T g 38 = .slice (some ⟨br, orr, none⟩) lr cr := fun g => by rw [hT]; kernel_rfl
 have q39 : ∀ g, T g 39 = .pointer (some ⟨V, 0, none⟩) := fun g => by rw [hT]; kernel_rfl
 have q40 : ∀ g, T g 40 = .func (.func 137) #[.pointer (some ⟨V, 0, none⟩)] #[] := fun g => by rw [hT]; kernel_rfl
 have q41 : ∀ g, T g 41 = .int .i64 s2 := fun g => by rw [hT]; kernel_rfl
 have q42 : ∀ g, T g 42 = .int .i64 t1 := fun g => by rw [hT]; kernel_rfl
 have q43 : ∀ g, T g 43 = .pointer (some ⟨V, 0, none⟩) := fun g => by rw [hT]; kernel_rfl
 have q44 : ∀ g, T g 44 = .pointer (some ⟨V, 0, none⟩) := fun g => by rw [hT]; kernel_rfl
 have q45 : ∀ g, T g 45 = .pointer (some ⟨V, 0, none⟩) := fun g => by rw [hT]; kernel_rfl
 have q46 : ∀ g, T g 46 = .pointer (some ⟨b, 0, none⟩) := fun g => by rw [hT]; kernel_rfl
 have q47 : ∀ g, T g 47 = .pointer (some ⟨V, 0, none⟩) := fun g => by rw [hT]; kernel_rfl
 have q48 : ∀ g, T g 48 = .pointer (some ⟨V, 0, none⟩) := fun g => by rw [hT]; kernel_rfl
 have q49 : ∀ g, T g 49 = .pointer (some ⟨V, 5, none⟩) := fun g => by rw [hT]; kernel_rfl
 have q50 : ∀ g, T g 50 = .slice (some ⟨bn, onn, none⟩) ln cn := fun g => by rw [hT]; kernel_rfl
 have q51 : ∀ g, T g 51 = .pointer (some ⟨bn, onn + 1, none⟩) := fun g => by rw [hT]; kernel_rfl
 have q52 : ∀ g, T g 52 = .int .i64 y1 := fun g => by rw [hT]; kernel_rfl
 have q53 : ∀ g, T g 53 = .pointer (some ⟨V, 0, none⟩) := fun g => by rw [hT]; kernel_rfl
 have q54 : ∀ g, T g 54 = .pointer (some ⟨V, 0, none⟩) := fun g => by rw [hT]; kernel_rfl
 have q55 : ∀ g, T g 55 = .pointer (some ⟨V, 0, none⟩) := fun g => by rw [hT]; kernel_rfl
 have q56 : ∀ g, T g 56 = .pointer (some ⟨V, 4, none⟩) := fun g => by rw [hT]; kernel_rfl
 have q57 : ∀ g, T g 57 = .slice (some ⟨br, orr, none⟩) lr cr := fun g => by rw [hT]; kernel_rfl
 have q58 : ∀ g, T g 58 = .pointer (some ⟨V, 0, none⟩) := fun g => by rw [hT]; kernel_rfl
 have q59 : ∀ g, T g 59 = .func (.func 138) #[.pointer (some ⟨V, 0, none⟩)] #[] := fun g => by rw [hT]; kernel_rfl
 have q60 : ∀ g, T g 60 = .int .i64 s3 := fun g => by rw [hT]; kernel_rfl
 have q61 : ∀ g, T g 61 = .int .i64 t2 := fun g => by rw [hT]; kernel_rfl
 have q62 : ∀ g, T g 62 = .pointer (some ⟨V, 0, none⟩) := fun g => by rw [hT]; kernel_rfl
 have q63 : ∀ g, T g 63 = .pointer (some ⟨V, 0, none⟩) := fun g => by rw [hT]; kernel_rfl
 have q64 : ∀ g, T g 64 = .pointer (some ⟨V, 0, none⟩) := fun g => by rw [hT]; kernel_rfl
 have q65 : ∀ g, T g 65 = .pointer (some ⟨b, 0, none⟩) := fun g => by rw [hT]; kernel_rfl
 have q66 : ∀ g, T g 66 = .pointer (some ⟨V, 0, none⟩) := fun g => by rw [hT]; kernel_rfl
 have q67 : ∀ g, T g 67 = .pointer (some ⟨V, 0, none⟩) := fun g => by rw [hT]; kernel_rfl
 have q68 : ∀ g, T g 68 = .pointer (some ⟨V, 5, none⟩) := fun g => by rw [hT]; kernel_rfl
 have q69 : ∀ g, T g 69 = .slice (some ⟨bn, onn, none⟩) ln cn := fun g => by rw [hT]; kernel_rfl
 have q70 : ∀ g, T g 70 = .pointer (some ⟨bn, onn + 2, none⟩) := fun g => by rw [hT]; kernel_rfl
 have q71 : ∀ g, T g 71 = .int .i64 y2 := fun g => by rw [hT]; kernel_rfl
 have q72 : ∀ g, T g 72 = .pointer (some ⟨V, 0, none⟩) := fun g => by rw [hT]; kernel_rfl
 have q73 : ∀ g, T g 73 = .pointer (some ⟨V, 0, none⟩) := fun g => by rw [hT]; kernel_rfl
 have q74 : ∀ g, T g 74 = .pointer (some ⟨V, 0, none⟩) := fun g => by rw [hT]; kernel_rfl
 have q75 : ∀ g, T g 75 = .pointer (some ⟨V, 4, none⟩) := fun g => by rw [hT]; kernel_rfl
 have q76 : ∀ g, T g 76 = .slice (some ⟨br, orr, none⟩) lr cr := fun g => by rw [hT]; kernel_rfl
 have q77 : ∀ g, T g 77 = .pointer (some ⟨V, 0, none⟩) := fun g => by rw [hT]; kernel_rfl
 have q78 : ∀ g, T g 78 = .func (.func 139) #[.pointer (some ⟨V, 0, none⟩)] #[] := fun g => by rw [hT]; kernel_rfl
 have q79 : ∀ g, T g 79 = .int .i64 s4 := fun g => by rw [hT]; kernel_rfl
 have q80 : ∀ g, T g 80 = .int .i64 t3 := fun g => by rw [hT]; kernel_rfl
 have q81 : ∀ g, T g 81 = .slice (some ⟨g, 0, none⟩) 4 4 := fun g => by rw [hT]; kernel_rfl
 refine wp_region_vals [3, 4, 5, 6, 7, 8, 9, 10, 11, 12, 13, 14, 15, 16, 17, 18, 19, 20, 21, 22, 23, 24, 25, 26, 27, 28, 29, 30, 31, 32, 33, 34, 35, 36, 37, 38, 39, 40, 41, 42, 43, 44, 45, 46, 47, 48, 49, 50, 51, 52, 53, 54, 55, 56, 57, 58, 59, 60, 61, 62, 63, 64, 65, 66, 67, 68, 69, 70, 71, 72, 73, 74, 75, 76, 77, 78, 79, 80, 81, 2] (fun g => [.pointer (some ⟨V, 0, none⟩), .pointer (some ⟨V, 0, none⟩), .pointer (some ⟨V, 0, none⟩), .pointer (some ⟨b, 0, none⟩), .pointer (some ⟨V, 0, none⟩), .pointer (some ⟨V, 0, none⟩), .pointer (some ⟨V, 0, none⟩), .pointer (some ⟨V, 5, none⟩), .slice (some ⟨bn, onn, none⟩) ln cn, .pointer (some ⟨V, 0, none⟩), .func (.func 135) #[.pointer (some ⟨V, 0, none⟩)] #[], .int .i64 s0, .pointer (some ⟨V, 0, none⟩), .pointer (some ⟨V, 0, none⟩), .pointer (some ⟨V, 0, none⟩), .pointer (some ⟨V, 4, none⟩), .slice (some ⟨br, orr, none⟩) lr cr, .pointer (some ⟨V, 0, none⟩), .func (.func 136) #[.pointer (some ⟨V, 0, none⟩)] #[], .int .i64 s1, .int .i64 t0, .pointer (some ⟨V, 0, none⟩), .pointer (some ⟨V, 0, none⟩), .pointer (some ⟨V, 0, none⟩), .pointer (some ⟨b, 0, none⟩), .pointer (some ⟨V, 0, none⟩), .pointer (some ⟨V, 0, none⟩), .pointer (some ⟨V, 5, none⟩), .slice (some ⟨bn, onn, none⟩) ln cn, .pointer (some ⟨bn, onn, none⟩), .int .i64 y0, .pointer (some ⟨V, 0, none⟩), .pointer (some ⟨V, 0, none⟩), .pointer (some ⟨V, 0, none⟩), .pointer (some ⟨V, 4, none⟩), .slice (some ⟨br, orr, none⟩) lr cr, .pointer (some ⟨V, 0, none⟩), .func (.func 137) #[.pointer (some ⟨V, 0, none⟩)] #[], .int .i64 s2, .int .i64 t1, .pointer (some ⟨V, 0, none⟩), .pointer (some ⟨V, 0, none⟩), .pointer (some ⟨V, 0, none⟩), .pointer (some ⟨b, 0, none⟩), .pointer (some ⟨V, 0, none⟩), .pointer (some ⟨V, 0, none⟩), .pointer (some ⟨V, 5, none⟩), .slice (some ⟨bn, onn, none⟩) ln cn, .pointer (some ⟨bn, onn + 1, none⟩), .int .i64 y1, .pointer (some ⟨V, 0, none⟩), .pointer (some ⟨V, 0, none⟩), .pointer (some ⟨V, 0, none⟩), .pointer (some ⟨V, 4, none⟩), .slice (some ⟨br, orr, none⟩) lr cr, .pointer (some ⟨V, 0, none⟩), .func (.func 138) #[.pointer (some ⟨V, 0, none⟩)] #[], .int .i64 s3, .int .i64 t2, .pointer (some ⟨V, 0, none⟩), .pointer (some ⟨V, 0, none⟩), .pointer (some ⟨V, 0, none⟩), .pointer (some ⟨b, 0, none⟩), .pointer (some ⟨V, 0, none⟩), .pointer (some ⟨V, 0, none⟩), .pointer (some ⟨V, 5, none⟩), .slice (some ⟨bn, onn, none⟩) ln cn, .pointer (some ⟨bn, onn + 2, none⟩), .int .i64 y2, .pointer (some ⟨V, 0, none⟩), .pointer (some ⟨V, 0, none⟩), .pointer (some ⟨V, 0, none⟩), .pointer (some ⟨V, 4, none⟩), .slice (some ⟨br, orr, none⟩) lr cr, .pointer (some ⟨V, 0, none⟩), .func (.func 139) #[.pointer (some ⟨V, 0, none⟩)] #[], .int .i64 s4, .int .i64 t3, .slice (some ⟨g, 0, none⟩) 4 4, .slice (some ⟨g, 0, none⟩) 4 4]) (fun W => Below w.heap.size w W) (fun g W => w.heap.size <= g /\ W.heap[g]? = some (.cells #[.int .i64 t0, .int .i64 t1, .int .i64 t2, .int .i64 t3] 3 (0, 0))) 78 _ _ T (fun g => by rw [hT]) (by kernel_rfl) (of_decide_eq_true (by kernel_rfl)) (by kernel_rfl) (by kernel_rfl) (by kernel_rfl) (by kernel_rfl) ⟨_, ⟨78, .data⟩, rfl, by simp, rfl, rfl⟩ (fun _ => by kernel_rfl) ?c1 (fun g W W' h hb => ⟨h.1, (hb.block g (Array.getElem?_eq_some_iff.1 h.2).1).trans h.2⟩) ?c2 ?c3 hdd
 case c1 =>
  intro g g' k hk
  rw [show ([(pz V), (pz V), (pz V), (pz b), (pz V), (pz V), (pz V), .pointer (some ⟨V, 5, none⟩), .slice (some ⟨bn, onn, none⟩) ln cn, (pz V), .func (.func 135) #[(pz V)] #[], .int .i64 s0, (pz V), (pz V), (pz V), .pointer (some ⟨V, 4, none⟩), .slice (some ⟨br, orr, none⟩) lr cr, (pz V), .func (.func 136) #[(pz V)] #[], .int .i64 s1, .int .i64 t0, (pz V), (pz V), (pz V), (pz b), (pz V), (pz V), .pointer (some ⟨V, 5, none⟩), .slice (some ⟨bn, onn, none⟩) ln cn, .pointer (some ⟨bn, onn, none⟩), .int .i64 y0, (pz V), (pz V), (pz V), .pointer (some ⟨V, 4, none⟩), .slice (some ⟨br, orr, none⟩) lr cr, (pz V), .func (.func 137) #[(pz V)] #[], .int .i64 s2, .int .i64 t1, (pz V), (pz V), (pz V), (pz b), (pz V), (pz V), .pointer (some ⟨V, 5, none⟩), .slice (some ⟨bn, onn, none⟩) ln cn, .pointer (some ⟨bn, onn + 1, none⟩), .int .i64 y1, (pz V), (pz V), (pz V), .pointer (some ⟨V, 4, none⟩), .slice (some ⟨br, orr, none⟩) lr cr, (pz V), .func (.func 138) #[(pz V)] #[], .int .i64 s3, .int .i64 t2, (pz V), (pz V), (pz V), (pz b), (pz V), (pz V), .pointer (some ⟨V, 5, none⟩), .slice (some ⟨bn, onn, none⟩) ln cn, .pointer (some ⟨bn, onn + 2, none⟩), .int .i64 y2, (pz V), (pz V), (pz V), .pointer (some ⟨V, 4, none⟩), .slice (some ⟨br, orr, none⟩) lr cr, (pz V), .func (.func 139) #[(pz V)] #[], .int .i64 s4, .int .i64 t3, .slice (some ⟨g, 0, none⟩) 4 4, .slice (some ⟨g, 0, none⟩) 4 4] : List Value) = [(pz V), (pz V), (pz V), (pz b), (pz V), (pz V), (pz V), .pointer (some ⟨V, 5, none⟩), .slice (some ⟨bn, onn, none⟩) ln cn, (pz V), .func (.func 135) #[(pz V)] #[], .int .i64 s0, (pz V), (pz V), (pz V), .pointer (some ⟨V, 4, none⟩), .slice (some ⟨br, orr, none⟩) lr cr, (pz V), .func (.func 136) #[(pz V)] #[], .int .i64 s1, .int .i64 t0, (pz V), (pz V), (pz V), (pz b), (pz V), (pz V), .pointer (some ⟨V, 5, none⟩), .slice (some ⟨bn, onn, none⟩) ln cn, .pointer (some ⟨bn, onn, none⟩), .int .i64 y0, (pz V), (pz V), (pz V), .pointer (some ⟨V, 4, none⟩), .slice (some ⟨br, orr, none⟩) lr cr, (pz V), .func (.func 137) #[(pz V)] #[], .int .i64 s2, .int .i64 t1, (pz V), (pz V), (pz V), (pz b), (pz V), (pz V), .pointer (some ⟨V, 5, none⟩), .slice (some ⟨bn, onn, none⟩) ln cn, .pointer (some ⟨bn, onn + 1, none⟩), .int .i64 y1, (pz V), (pz V), (pz V), .pointer (some ⟨V, 4, none⟩), .slice (some ⟨br, orr, none⟩) lr cr, (pz V), .func (.func 138) #[(pz V)] #[], .int .i64 s3, .int .i64 t2, (pz V), (pz V), (pz V), (pz b), (pz V), (pz V), .pointer (some ⟨V, 5, none⟩), .slice (some ⟨bn, onn, none⟩) ln cn, .pointer (some ⟨bn, onn + 2, none⟩), .int .i64 y2, (pz V), (pz V), (pz V), .pointer (some ⟨V, 4, none⟩), .slice (some ⟨br, orr, none⟩) lr cr, (pz V), .func (.func 139) #[(pz V)] #[], .int .i64 s4, .int .i64 t3] ++ [.slice (some ⟨g, 0, none⟩) 4 4, .slice (some ⟨g, 0, none⟩) 4 4] from by kernel_rfl, show ([(pz V), (pz V), (pz V), (pz b), (pz V), (pz V), (pz V), .pointer (some ⟨V, 5, none⟩), .slice (some ⟨bn, onn, none⟩) ln cn, (pz V), .func (.func 135) #[(pz V)] #[], .int .i64 s0, (pz V), (pz V), (pz V), .pointer (some ⟨V, 4, none⟩), .slice (some ⟨br, orr, none⟩) lr cr, (pz V), .func (.func 136) #[(pz V)] #[], .int .i64 s1, .int .i64 t0, (pz V), (pz V), (pz V), (pz b), (pz V), (pz V), .pointer (some ⟨V, 5, none⟩), .slice (some ⟨bn, onn, none⟩) ln cn, .pointer (some ⟨bn, onn, none⟩), .int .i64 y0, (pz V), (pz V), (pz V), .pointer (some ⟨V, 4, none⟩), .slice (some ⟨br, orr, none⟩) lr cr, (pz V), .func (.func 137) #[(pz V)] #[], .int .i64 s2, .int .i64 t1, (pz V), (pz V), (pz V), (pz b), (pz V), (pz V), .pointer (some ⟨V, 5, none⟩), .slice (some ⟨bn, onn, none⟩) ln cn, .pointer (some ⟨bn, onn + 1, none⟩), .int .i64 y1, (pz V), (pz V), (pz V), .pointer (some ⟨V, 4, none⟩), .slice (some ⟨br, orr, none⟩) lr cr, (pz V), .func (.func 138) #[(pz V)] #[], .int .i64 s3, .int .i64 t2, (pz V), (pz V), (pz V), (pz b), (pz V), (pz V), .pointer (some ⟨V, 5, none⟩), .slice (some ⟨bn, onn, none⟩) ln cn, .pointer (some ⟨bn, onn + 2, none⟩), .int .i64 y2, (pz V), (pz V), (pz V), .pointer (some ⟨V, 4, none⟩), .slice (some ⟨br, orr, none⟩) lr cr, (pz V), .func (.func 139) #[(pz V)] #[], .int .i64 s4, .int .i64 t3, .slice (some ⟨g', 0, none⟩) 4 4, .slice (some ⟨g', 0, none⟩) 4 4] : List Value) = [(pz V), (pz V), (pz V), (pz b), (pz V), (pz V), (pz V), .pointer (some ⟨V, 5, none⟩), .slice (some ⟨bn, onn, none⟩) ln cn, (pz V), .func (.func 135) #[(pz V)] #[], .int .i64 s0, (pz V), (pz V), (pz V), .pointer (some ⟨V, 4, none⟩), .slice (some ⟨br, orr, none⟩) lr cr, (pz V), .func (.func 136) #[(pz V)] #[], .int .i64 s1, .int .i64 t0, (pz V), (pz V), (pz V), (pz b), (pz V), (pz V), .pointer (some ⟨V, 5, none⟩), .slice (some ⟨bn, onn, none⟩) ln cn, .pointer (some ⟨bn, onn, none⟩), .int .i64 y0, (pz V), (pz V), (pz V), .pointer (some ⟨V, 4, none⟩), .slice (some ⟨br, orr, none⟩) lr cr, (pz V), .func (.func 137) #[(pz V)] #[], .int .i64 s2, .int .i64 t1, (pz V), (pz V), (pz V), (pz b), (pz V), (pz V), .pointer (some ⟨V, 5, none⟩), .slice (some ⟨bn, onn, none⟩) ln cn, .pointer (some ⟨bn, onn + 1, none⟩), .int .i64 y1, (pz V), (pz V), (pz V), .pointer (some ⟨V, 4, none⟩), .slice (some ⟨br, orr, none⟩) lr cr, (pz V), .func (.func 138) #[(pz V)] #[], .int .i64 s3, .int .i64 t2, (pz V), (pz V), (pz V), (pz b), (pz V), (pz V), .pointer (some ⟨V, 5, none⟩), .slice (some ⟨bn, onn, none⟩) ln cn, .pointer (some ⟨bn, onn + 2, none⟩), .int .i64 y2, (pz V), (pz V), (pz V), .pointer (some ⟨V, 4, none⟩), .slice (some ⟨br, orr, none⟩) lr cr, (pz V), .func (.func 139) #[(pz V)] #[], .int .i64 s4, .int .i64 t3] ++ [.slice (some ⟨g', 0, none⟩) 4 4, .slice (some ⟨g', 0, none⟩) 4 4] from by kernel_rfl]
  simp only [List.getD_eq_getElem?_getD]
  rw [List.getElem?_append_left (by simpa using hk), List.getElem?_append_left (by simpa using hk)]
 case c2 =>
  clear hT
  refine AllI.cons (gives_val (fun g W hS => by simp only [execOp, evT, Option.getD_some, q0, q3]; rfl)) ?_
  refine AllI.cons (gives_val (fun g W hS => by simp only [execOp, evT, Option.getD_some, q3, q4]; rfl)) ?_
  refine AllI.cons (gives_val (fun g W hS => by simp only [execOp, evT, Option.getD_some, q4, q5]; kernel_rfl)) ?_
  refine AllI.cons (gives_val (fun g W hS => by obtain ⟨c0, c1, c3, c4, c5, n0, n1, n2⟩ := HX.out W hS; simp only [execOp, evT, Option.getD_some, q5, q6]; go_simp)) ?_
  refine AllI.cons (gives_val (fun g W hS => by simp only [execOp, evT, Option.getD_some, q0, q7]; rfl)) ?_
  refine AllI.cons (gives_val (fun g W hS => by simp only [execOp, evT, Option.getD_some, q0, q8]; rfl)) ?_
  refine AllI.cons (gives_val (fun g W hS => by simp only [execOp, evT, Option.getD_some, q8, q9]; rfl)) ?_
  refine AllI.cons (gives_val (fun g W hS => by simp only [execOp, evT, Option.getD_some, q9, q10]; kernel_rfl)) ?_
  refine AllI.cons (gives_val (fun g W hS => by obtain ⟨c0, c1, c3, c4, c5, n0, n1, n2⟩ := HX.out W hS; simp only [execOp, evT, Option.getD_some, q10, q11]; go_simp)) ?_
  refine AllI.cons (gives_val (fun g W hS => by simp only [execOp, evT, Option.getD_some, q0, q12]; rfl)) ?_
  refine AllI.cons (gives_val (fun g W hS => by simp only [execOp, List.map_toArray, List.map_cons, List.map_nil, evT, Option.getD_some, q12, q13]; kernel_rfl)) ?_
  refine AllI.cons (gives_call (fun g W hS => by simp only [execOp, resolve, List.map_toArray, List.map_cons, List.map_nil, evT, q7, q11, q13]; kernel_rfl) (fun g W hS => by simp only [Option.getD_some, q14]; exact HC0.out W hS)) ?_
  refine AllI.cons (gives_val (fun g W hS => by simp only [execOp, evT, Option.getD_some, q0, q15]; rfl)) ?_
  refine AllI.cons (gives_val (fun g W hS => by simp only [execOp, evT, Option.getD_some, q0, q16]; rfl)) ?_
  refine AllI.cons (gives_val (fun g W hS => by simp only [execOp, evT, Option.getD_some, q16, q17]; rfl)) ?_
  refine AllI.cons (gives_val (fun g W hS => by simp only [execOp, evT, Option.getD_some, q17, q18]; kernel_rfl)) ?_
  refine AllI.cons (gives_val (fun g W hS => by obtain ⟨c0, c1, c3, c4, c5, n0, n1, n2⟩ := HX.out W hS; simp only [execOp, evT, Option.getD_some, q18, q19]; go_simp)) ?_
  refine AllI.cons (gives_val (fun g W hS => by simp only [execOp, evT, Option.getD_some, q0, q20]; rfl)) ?_
  refine AllI.cons (gives_val (fun g W hS => by simp only [execOp, List.map_toArray, List.map_cons, List.map_nil, evT, Option.getD_some, q20, q21]; kernel_rfl)) ?_
  refine AllI.cons (gives_call (fun g W hS => by simp only [execOp, resolve, List.map_toArray, List.map_cons, List.map_nil, evT, q15, q19, q21]; kernel_rfl) (fun g W hS => by simp only [Option.getD_some, q22]; exact HC1.out W hS)) ?_
  refine AllI.cons (gives_call (fun g W hS => by simp only [execOp, resolve, List.map_toArray, List.map_cons, List.map_nil, evT, q6, q14, q22]; kernel_rfl) (fun g W hS => by simp only [Option.getD_some, q23]; exact HC2.out W hS)) ?_
  refine AllI.cons (gives_val (fun g W hS => by simp only [execOp, evT, Option.getD_some, q0, q24]; rfl)) ?_
  refine AllI.cons (gives_val (fun g W hS => by simp only [execOp, evT, Option.getD_some, q24, q25]; rfl)) ?_
  refine AllI.cons (gives_val (fun g W hS => by simp only [execOp, evT, Option.getD_some, q25, q26]; kernel_rfl)) ?_
  refine AllI.cons (gives_val (fun g W hS => by obtain ⟨c0, c1, c3, c4, c5, n0, n1, n2⟩ := HX.out W hS; simp only [execOp, evT, Option.getD_some, q26, q27]; go_simp)) ?_
  refine AllI.cons (gives_val (fun g W hS => by simp only [execOp, evT, Option.getD_some, q0, q28]; rfl)) ?_
  refine AllI.cons (gives_val (fun g W hS => by simp only [execOp, evT, Option.getD_some, q28, q29]; rfl)) ?_
  refine AllI.cons (gives_val (fun g W hS => by simp only [execOp, evT, Option.getD_some, q29, q30]; kernel_rfl)) ?_
  refine AllI.cons (gives_val (fun g W hS => by obtain ⟨c0, c1, c3, c4, c5, n0, n1, n2⟩ := HX.out W hS; simp only [execOp, evT, Option.getD_some, q30, q31]; go_simp)) ?_
  refine AllI.cons (gives_val (fun g W hS => by simp only [execOp, evT, Option.getD_some, q31, q32]; go_simp)) ?_
  refine AllI.cons (gives_val (fun g W hS => by obtain ⟨c0, c1, c3, c4, c5, n0, n1, n2⟩ := HX.out W hS; simp only [execOp, evT, Option.getD_some, q32, q33]; go_simp)) ?_
  refine AllI.cons (gives_val (fun g W hS => by simp only [execOp, evT, Option.getD_some, q0, q34]; rfl)) ?_
  refine AllI.cons (gives_val (fun g W hS => by simp only [execOp, evT, Option.getD_some, q0, q35]; rfl)) ?_
  refine AllI.cons (gives_val (fun g W hS => by simp only [execOp, evT, Option.getD_some, q35, q36]; rfl)) ?_
  refine AllI.cons (gives_val (fun g W hS => by simp only [execOp, evT, Option.getD_some, q36, q37]; kernel_rfl)) ?_
  refine AllI.cons (gives_val (fun g W hS => by obtain ⟨c0, c1, c3, c4, c5, n0, n1, n2⟩ := HX.out W hS; simp only [execOp, evT, Option.getD_some, q37, q38]; go_simp)) ?_
  refine AllI.cons (gives_val (fun g W hS => by simp only [execOp, evT, Option.getD_some, q0, q39]; rfl)) ?_
  refine AllI.cons (gives_val (fun g W hS => by simp only [execOp, List.map_toArray, List.map_cons, List.map_nil, evT, Option.getD_some, q39, q40]; kernel_rfl)) ?_
  refine AllI.cons (gives_call (fun g W hS => by simp only [execOp, resolve, List.map_toArray, List.map_cons, List.map_nil, evT, q34, q38, q40]; kernel_rfl) (fun g W hS => by simp only [Option.getD_some, q41]; exact HC3.out W hS)) ?_
  refine AllI.cons (gives_call (fun g W hS => by simp only [execOp, resolve, List.map_toArray, List.map_cons, List.map_nil, evT, q27, q33, q41]; kernel_rfl) (fun g W hS => by simp only [Option.getD_some, q42]; exact HC4.out W hS)) ?_
  refine AllI.cons (gives_val (fun g W hS => by simp only [execOp, evT, Option.getD_some, q0, q43]; rfl)) ?_
  refine AllI.cons (gives_val (fun g W hS => by simp only [execOp, evT, Option.getD_some, q43, q44]; rfl)) ?_
  refine AllI.cons (gives_val (fun g W hS => by simp only [execOp, evT, Option.getD_some, q44, q45]; kernel_rfl)) ?_
  refine AllI.cons (gives_val (fun g W hS => by obtain ⟨c0, c1, c3, c4, c5, n0, n1, n2⟩ := HX.out W hS; simp only [execOp, evT, Option.getD_some, q45, q46]; go_simp)) ?_
  refine AllI.cons (gives_val (fun g W hS => by simp only [execOp, evT, Option.getD_some, q0, q47]; rfl)) ?_
  refine AllI.cons (gives_val (fun g W hS => by simp only [execOp, evT, Option.getD_some, q47, q48]; rfl)) ?_
  refine AllI.cons (gives_val (fun g W hS => by simp only [execOp, evT, Option.getD_some, q48, q49]; kernel_rfl)) ?_
  refine AllI.cons (gives_val (fun g W hS => by obtain ⟨c0, c1, c3, c4, c5, n0, n1, n2⟩ := HX.out W hS; simp only [execOp, evT, Option.getD_some, q49, q50]; go_simp)) ?_
  refine AllI.cons (gives_val (fun g W hS => by simp only [execOp, evT, Option.getD_some, q50, q51]; go_simp)) ?_
  refine AllI.cons (gives_val (fun g W hS => by obtain ⟨c0, c1, c3, c4, c5, n0, n1, n2⟩ := HX.out W hS; simp only [execOp, evT, Option.getD_some, q51, q52]; go_simp)) ?_
  refine AllI.cons (gives_val (fun g W hS => by simp only [execOp, evT, Option.getD_some, q0, q53]; rfl)) ?_
  refine AllI.cons (gives_val (fun g W hS => by simp only [execOp, evT, Option.getD_some, q0, q54]; rfl)) ?_
  refine AllI.cons (gives_val (fun g W hS => by simp only [execOp, evT, Option.getD_some, q54, q55]; rfl)) ?_
  refine AllI.cons (gives_val (fun g W hS => by simp only [execOp, evT, Option.getD_some, q55, q56]; kernel_rfl)) ?_
  refine AllI.cons (gives_val (fun g W hS => by obtain ⟨c0, c1, c3, c4, c5, n0, n1, n2⟩ := HX.out W hS; simp only [execOp, evT, Option.getD_some, q56, q57]; go_simp)) ?_
  refine AllI.cons (gives_val (fun g W hS => by simp only [execOp, evT, Option.getD_some, q0, q58]; rfl)) ?_
  refine AllI.cons (gives_val (fun g W hS => by simp only [execOp, List.map_toArray, List.map_cons, List.map_nil, evT, Option.getD_some, q58, q59]; kernel_rfl)) ?_
  refine AllI.cons (gives_call (fun g W hS => by simp only [execOp, resolve, List.map_toArray, List.map_cons, List.map_nil, evT, q53, q57, q59]; kernel_rfl) (fun g W hS => by simp only [Option.getD_some, q60]; exact HC5.out W hS)) ?_
  refine AllI.cons (gives_call (fun g W hS => by simp only [execOp, resolve, List.map_toArray, List.map_cons, List.map_nil, evT, q46, q52, q60]; kernel_rfl) (fun g W hS => by simp only [Option.getD_some, q61]; exact HC6.out W hS)) ?_
  refine AllI.cons (gives_val (fun g W hS => by simp only [execOp, evT, Option.getD_some, q0, q62]; rfl)) ?_
  refine AllI.cons (gives_val (fun g W hS => by simp only [execOp, evT, Option.getD_some, q62, q63]; rfl)) ?_
  refine AllI.cons (gives_val (fun g W hS => by simp only [execOp, evT, Option.getD_some, q63, q64]; kernel_rfl)) ?_
  refine AllI.cons (gives_val (fun g W hS => by obtain ⟨c0, c1, c3, c4, c5, n0, n1, n2⟩ := HX.out W hS; simp only [execOp, evT, Option.getD_some, q64, q65]; go_simp)) ?_
  refine AllI.cons (gives_val (fun g W hS => by simp only [execOp, evT, Option.getD_some, q0, q66]; rfl)) ?_
  refine AllI.cons (gives_val (fun g W hS => by simp only [execOp, evT, Option.getD_some, q66, q67]; rfl)) ?_
  refine AllI.cons (gives_val (fun g W hS => by simp only [execOp, evT, Option.getD_some, q67, q68]; kernel_rfl)) ?_
  refine AllI.cons (gives_val (fun g W hS => by obtain ⟨c0, c1, c3, c4, c5, n0, n1, n2⟩ := HX.out W hS; simp only [execOp, evT, Option.getD_some, q68, q69]; go_simp)) ?_
  refine AllI.cons (gives_val (fun g W hS => by simp only [execOp, evT, Option.getD_some, q69, q70]; go_simp)) ?_
  refine AllI.cons (gives_val (fun g W hS => by obtain ⟨c0, c1, c3, c4, c5, n0, n1, n2⟩ := HX.out W hS; simp only [execOp, evT, Option.getD_some, q70, q71]; go_simp)) ?_
  refine AllI.cons (gives_val (fun g W hS => by simp only [execOp, evT, Option.getD_some, q0, q72]; rfl)) ?_
  refine AllI.cons (gives_val (fun g W hS => by simp only [execOp, evT, Option.getD_some, q0, q73]; rfl)) ?_
  refine AllI.cons (gives_val (fun g W hS => by simp only [execOp, evT, Option.getD_some, q73, q74]; rfl)) ?_
  refine AllI.cons (gives_val (fun g W hS => by simp only [execOp, evT, Option.getD_some, q74, q75]; kernel_rfl)) ?_
  refine AllI.cons (gives_val (fun g W hS => by obtain ⟨c0, c1, c3, c4, c5, n0, n1, n2⟩ := HX.out W hS; simp only [execOp, evT, Option.getD_some, q75, q76]; go_simp)) ?_
  refine AllI.cons (gives_val (fun g W hS => by simp only [execOp, evT, Option.getD_some, q0, q77]; rfl)) ?_
  refine AllI.cons (gives_val (fun g W hS => by simp only [execOp, List.map_toArray, List.map_cons, List.map_nil, evT, Option.getD_some, q77, q78]; kernel_rfl)) ?_
  refine AllI.cons (gives_call (fun g W hS => by simp only [execOp, resolve, List.map_toArray, List.map_cons, List.map_nil, evT, q72, q76, q78]; kernel_rfl) (fun g W hS => by simp only [Option.getD_some, q79]; exact HC7.out W hS)) ?_
  refine AllI.cons (gives_call (fun g W hS => by simp only [execOp, resolve, List.map_toArray, List.map_cons, List.map_nil, evT, q65, q71, q79]; kernel_rfl) (fun g W hS => by simp only [Option.getD_some, q80]; exact HC8.out W hS)) ?_
  refine AllI.cons (fun g W a K hS hK => by
   simp only [execOp, evT]
   go_simp
   have hk := hK W.heap.size _ (Below.alloc hS hS.size _) ⟨hS.size, heap_alloc_new W _⟩
   simp only [Option.getD_some, q81] at hk
   exact hk) ?_
  refine AllI.cons (gives_val (fun g W hS => by simp only [execOp, evT, Option.getD_some, q2, q81]; rfl)) ?_
  exact AllI.nil
 case c3 =>
  intro g W hS hG
  rw [show putAll _ _ _ = #[(pz V), undef, .slice (some ⟨g, 0, none⟩) 4 4, (pz V), (pz V), (pz V), (pz b), (pz V), (pz V), (pz V), .pointer (some ⟨V, 5, none⟩), .slice (some ⟨bn, onn, none⟩) ln cn, (pz V), .func (.func 135) #[(pz V)] #[], .int .i64 s0, (pz V), (pz V), (pz V), .pointer (some ⟨V, 4, none⟩), .slice (some ⟨br, orr, none⟩) lr cr, (pz V), .func (.func 136) #[(pz V)] #[], .int .i64 s1, .int .i64 t0, (pz V), (pz V), (pz V), (pz b), (pz V), (pz V), .pointer (some ⟨V, 5, none⟩), .slice (some ⟨bn, onn, none⟩) ln cn, .pointer (some ⟨bn, onn, none⟩), .int .i64 y0, (pz V), (pz V), (pz V), .pointer (some ⟨V, 4, none⟩), .slice (some ⟨br, orr, none⟩) lr cr, (pz V), .func (.func 137) #[(pz V)] #[], .int .i64 s2, .int .i64 t1, (pz V), (pz V), (pz V), (pz b), (pz V), (pz V), .pointer (some ⟨V, 5, none⟩), .slice (some ⟨bn, onn, none⟩) ln cn, .pointer (some ⟨bn, onn + 1, none⟩), .int .i64 y1, (pz V), (pz V), (pz V), .pointer (some ⟨V, 4, none⟩), .slice (some ⟨br, orr, none⟩) lr cr, (pz V), .func (.func 138) #[(pz V)] #[], .int .i64 s3, .int .i64 t2, (pz V), (pz V), (pz V), (pz b), (pz V), (pz V), .pointer (some ⟨V, 5, none⟩), .slice (some ⟨bn, onn, none⟩) ln cn, .pointer (some ⟨bn, onn + 2, none⟩), .int .i64 y2, (pz V), (pz V), (pz V), .pointer (some ⟨V, 4, none⟩), .slice (some ⟨br, orr, none⟩) lr cr, (pz V), .func (.func 139) #[(pz V)] #[], .int .i64 s4, .int .i64 t3, .slice (some ⟨g, 0, none⟩) 4 4] from by kernel_rfl]
  go_wp2_with fail
  exact HRR.out g _ _ hS hG.1 hG.2 rfl
end Go.Proofs.YtjlngcmkgkiplaaGreatDoor
