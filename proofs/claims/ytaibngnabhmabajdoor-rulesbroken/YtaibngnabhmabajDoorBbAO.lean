/- The reference: Rule, any rule. Package rules: what is said of a row, piece by piece. A region that draws its order: an operation that yields its value in every world of a kind, and for which every store of the region waits, may be taken first. Own law, after the shape of the library's: what is held need not hold behind the stores. A region that draws its order, by what every operation keeps: one proof an operation, whatever the order. Own laws. A great region that draws its order, by what every place of its frame comes to hold: one small proof an operation. Own laws. -/
import Derived.Test.YtaibngnabhmabajDoorRyI
import Derived.Test.YtaibngnabhmabajDoorRyJ
import Derived.Test.YtaibngnabhmabajDoorBbAN
import Derived.OrdersHeld
import Derived.RegionTactic
import Derived.Below
namespace Go.Proofs.YtaibngnabhmabajDoor
open Go.RowKit Go.Maps

set_option maxRecDepth 100000 in
set_option maxHeartbeats 4000000 in
theorem wrule_low (p V : Nat) (L : List InsZ) (size out : Int) (r n : List Int) (aL : Option Addr) (cL : Nat) (ar : Option Addr) (cr : Nat) (an : Option Addr) (cn : Nat) (w : World) (H : VF p L size out r n) (hV : WW p V L size out r n aL cL ar cr an cn w) (i : Nat) (hi : i < L.length) :
    Calls Tryd.prog 16 #[.pointer (some ⟨V, 0, none⟩), .int .i64 (i : Int)] w fun e w' => e = .returned (.int .i64 (chz p r i)) ∧ Below w.heap.size w w' := by
  have h3 := H.h3
  have h4 := H.h4
  have hl := H.hl
  obtain ⟨br, orr, har, hrw⟩ := rowB_at hV.row H.hr
  subst har
  obtain ⟨m, hm⟩ : ∃ m, m = 20 + i := ⟨_, rfl⟩
  have em : 20 + (i : Int) = (m : Int) := by omega
  have wm : IntKind.i64.wrap (m : Int) = (m : Int) := by rw [IntKind.wrap_i64]; omega
  have lm : (m : Int) < (r.length : Int) := by have := H.hr; omega
  have li : (i : Int) < (L.length : Int) := by omega
  obtain ⟨c0, c1, c2, c3, c4, c5⟩ := hV.cells
  have cm := hrw m (by omega)
  have hfm := H.fr m
  have hem := em_I64 h3 h4 (zat r m * zat r m)
  have HC0 := hid (wmul_any p V (zat r m) (zat r m) w h3 h4 c0 hfm hfm)
  have HC1 := hid (wsub_any p V (zat r m * zat r m % (p : Int)) (zat r m) w h3 h4 c0 hem hfm)
  have HE : Hid (chz p r i = (zat r m * zat r m % (p : Int) - zat r m) % (p : Int)) := by
    unfold Hid chz
    rw [em_sub1, ← hm, Int.mul_sub, Int.mul_one]
  obtain ⟨R, hR⟩ : ∃ R, R = chz p r i := ⟨_, rfl⟩
  rw [← hR] at HE ⊢
  clear hR H hV hrw hm hfm hem
  generalize (zat r m * zat r m % (p : Int) - zat r m) % (p : Int) = t2 at *
  generalize zat r m * zat r m % (p : Int) = t1 at *
  generalize zat r m = zm at *
  generalize r.length = lr at *
  generalize L.length = nL at *
  go_enter Tryd.func16, Tryd.ntmps16
  go_wp2_with fail
  refine HC0.out.mono ?_
  rintro e w' ⟨rfl, hw'⟩
  have hw'' := hw'.symm
  subst hw''
  clear hw'
  go_wp2_with fail
  refine HC1.out.mono ?_
  rintro e w' ⟨rfl, hw'⟩
  have hw'' := hw'.symm
  subst hw''
  clear hw'
  go_wp2_with fail
  go_ret
  exact ⟨by have h := HE.out; subst h; rfl, Below.refl _ _⟩

/-- how many are chosen, less one -/
def lpz (p : Nat) (s : Nat → Int) : Nat → Int
  | 0 => -1
  | k + 1 => (lpz p s k + s k) % (p : Int)
theorem lpz_smz (p : Nat) (s : Nat → Int) : ∀ k, lpz p s k % (p : Int) = (smz p s (fun _ => 1) k - 1) % (p : Int)
  | 0 => rfl
  | k + 1 => by
    rw [lpz, smz, Int.emod_emod_of_dvd _ (Int.dvd_refl _), em_sub1, ← em_add1, lpz_smz p s k, em_add1, Int.mul_one]
    congr 1
    omega
theorem lpz_I64 {p : Nat} (h3 : 3 ≤ p) (h4 : p ≤ 2147483647) (s : Nat → Int) : ∀ k, I64 (lpz p s k)
  | 0 => by unfold lpz I64; decide
  | k + 1 => em_I64 h3 h4 _

set_option maxRecDepth 100000 in
set_option maxHeartbeats 4000000 in
theorem wrule_0 (p V : Nat) (L : List InsZ) (size out : Int) (r n : List Int) (aL : Option Addr) (cL : Nat) (ar : Option Addr) (cr : Nat) (an : Option Addr) (cn : Nat) (w : World) (H : VF p L size out r n) (hV : WW p V L size out r n aL cL ar cr an cn w) :
    Calls Tryd.prog 16 #[.pointer (some ⟨V, 0, none⟩), .int .i64 ((L.length + 0 : Nat) : Int)] w fun e w' => e = .returned (.int .i64 ((smt p L r (fun _ _ => 1) - 1) % (p : Int))) ∧ Below w.heap.size w w' := by
  have h3 := H.h3
  have h4 := H.h4
  have hl := H.hl
  obtain ⟨br, orr, har, hrw⟩ := rowB_at hV.row H.hr
  subst har
  obtain ⟨c0, c1, c2, c3, c4, c5⟩ := hV.cells
  obtain ⟨nL, hnL⟩ : ∃ nL, nL = L.length := ⟨_, rfl⟩
  have HE : Hid ((smt p L r (fun _ _ => 1) - 1) % (p : Int) = lpz p (sel r) nL % (p : Int)) := by unfold Hid; rw [lpz_smz, hnL]; rfl
  have HOF := hid (fun W => rof_any p (lpz p (sel r) nL) W h3 h4 (lpz_I64 h3 h4 _ _).1 (lpz_I64 h3 h4 _ _).2)
  have HRW := hid hrw
  have HNL := hid hnL
  have HFR := hid H.fr
  have HLR : Hid ((r.length : Int) = 20 + (nL : Int)) := by have := H.hr; unfold Hid; omega
  rw [← hnL] at hl c2 ⊢
  rw [Nat.add_zero]
  obtain ⟨R, hR⟩ : ∃ R, R = (smt p L r (fun _ _ => 1) - 1) % (p : Int) := ⟨_, rfl⟩
  rw [← hR] at HE ⊢
  have f1 : ¬ (nL : Int) < (nL : Int) := by omega
  have f2 : (nL : Int) - (nL : Int) = 0 := by omega
  obtain ⟨lr, hlr⟩ : ∃ lr, lr = r.length := ⟨_, rfl⟩
  rw [← hlr] at HLR c4
  clear hnL hrw hR hV H hlr
  go_enter Tryd.func16, Tryd.ntmps16
  go_wp2_with fail
  go_loop [8, 9] (fun ov iv => ∃ k : Nat, k ≤ nL ∧ iv = .int .i64 k ∧ ov = .int .i64 (lpz p (sel r) k)) (fun _ iv => nL - (intOf iv).toNat)
  case atStart => exact ⟨0, Nat.zero_le _, rfl, rfl⟩
  case round =>
    obtain ⟨k, hk, rfl, rfl⟩ := hrel
    by_cases hlt : k < nL
    · have hlt2 : (k : Int) < (nL : Int) := by omega
      have hks : IntKind.i64.wrap ((k : Int) + 1) = (k : Int) + 1 := by rw [IntKind.wrap_i64]; omega
      obtain ⟨m, hm⟩ : ∃ m, m = 20 + k := ⟨_, rfl⟩
      have em : 20 + (k : Int) = (m : Int) := by omega
      have wm : IntKind.i64.wrap (m : Int) = (m : Int) := by rw [IntKind.wrap_i64]; omega
      have lm : (m : Int) < (lr : Int) := by have := HLR.out; omega
      have cm := HRW.out m (by have := HNL.out; omega)
      have HAD : Hid (Calls Tryd.prog 25 #[.pointer (some ⟨V, 0, none⟩), .int .i64 (lpz p (sel r) k), .int .i64 (zat r m)] w fun e w' => e = .returned (.int .i64 (lpz p (sel r) (k + 1))) ∧ w' = w) := by
        unfold Hid
        rw [lpz, show sel r k = zat r m by rw [hm]; rfl]
        exact wadd_any p V _ _ w h3 h4 c0 (lpz_I64 h3 h4 _ _) (HFR.out m)
      obtain ⟨t2, ht2⟩ : ∃ t, t = lpz p (sel r) (k + 1) := ⟨_, rfl⟩
      have HT2 := hid ht2
      rw [← ht2] at HAD
      generalize lpz p (sel r) k = t0 at *
      generalize zat r m = zm at *
      clear hm ht2
      go_wp2_with fail
      refine HAD.out.mono ?_
      rintro e w' ⟨rfl, hw'⟩
      have hw'' := hw'.symm
      subst hw''
      clear hw'
      go_wp2_with fail
      go_round
      case rel => exact ⟨k + 1, by omega, by go_num, by rw [HT2.out]⟩
      case measure => simp [intOf]; omega
    · have hlt2 : ¬ (k : Int) < (nL : Int) := by omega
      obtain rfl : k = nL := by omega
      generalize lpz p (sel r) k % (p : Int) = t at *
      generalize lpz p (sel r) k = t0 at *
      go_wp2_with fail
      refine (HOF.out _).mono ?_
      rintro e w' ⟨rfl, hw'⟩
      have hw'' := hw'.symm
      subst hw''
      clear hw'
      go_wp2_with fail
      go_ret
      exact ⟨by have h := HE.out; subst h; rfl, Below.refl _ _⟩

set_option maxRecDepth 100000 in
set_option maxHeartbeats 4000000 in
theorem wrule_12 (p V : Nat) (L : List InsZ) (size out : Int) (r n : List Int) (aL : Option Addr) (cL : Nat) (ar : Option Addr) (cr : Nat) (an : Option Addr) (cn : Nat) (w : World) (H : VF p L size out r n) (hV : WW p V L size out r n aL cL ar cr an cn w) :
    Calls Tryd.prog 16 #[.pointer (some ⟨V, 0, none⟩), .int .i64 ((L.length + 12 : Nat) : Int)] w fun e w' => e = .returned (.int .i64 ((smt p L n (fun k _ => (k : Int)) - smt p L r (tvN p r)) % (p : Int))) ∧ Below w.heap.size w w' := by
  have h3 := H.h3
  have h4 := H.h4
  have hl := H.hl
  obtain ⟨bn, onn, han, hnw⟩ := rowB_at hV.nxt H.hn
  subst han
  obtain ⟨c0, c1, c2, c3, c4, c5⟩ := hV.cells
  obtain ⟨nL, hnL⟩ : ∃ nL, nL = L.length := ⟨_, rfl⟩
  have HS : Hid (smt p L n (fun k _ => (k : Int)) = smz p (sel n) (fun k => (k : Int)) nL) := by unfold Hid; rw [hnL]; rfl
  have HSM : Hid (Calls Tryd.prog 27 #[.pointer (some ⟨V, 0, none⟩), .int .i64 5] w fun e w' => e = .returned (.int .i64 (smt p L r (tvN p r))) ∧ Below w.heap.size w w') := wsum_any p V L size out r n aL cL ar cr _ cn w H hV 5 (by omega)
  have es := fun s f => (show I64 (smt p L s f) by have := smt_bd h3 L s f; unfold I64; omega)
  have HSB : Hid (∀ W, Below w.heap.size w W → Calls Tryd.prog 24 #[.pointer (some ⟨V, 0, none⟩), .int .i64 (smt p L n (fun k _ => (k : Int))), .int .i64 (smt p L r (tvN p r))] W fun e w' => e = .returned (.int .i64 ((smt p L n (fun k _ => (k : Int)) - smt p L r (tvN p r)) % (p : Int))) ∧ w' = W) := fun W h => wsub_any p V _ _ W h3 h4 (hV.below h).cells.1 (es _ _) (es _ _)
  rw [HS.out] at HSB ⊢
  have HNW := hid hnw
  have HNL := hid hnL
  have HFN := hid H.fn
  have HLN : Hid ((n.length : Int) = 20 + (nL : Int)) := by have := H.hn; unfold Hid; omega
  obtain ⟨I, hI⟩ : ∃ I : Int, I = ((L.length + 12 : Nat) : Int) := ⟨_, rfl⟩
  rw [← hI]
  have f1 : ¬ I < (nL : Int) := by omega
  have f2 : I - (nL : Int) = 12 := by omega
  rw [← hnL] at hl c2
  obtain ⟨ln, hln⟩ : ∃ ln, ln = n.length := ⟨_, rfl⟩
  rw [← hln] at HLN c5
  obtain ⟨R, hR⟩ : ∃ R, R = (smz p (sel n) (fun k => (k : Int)) nL - smt p L r (tvN p r)) % (p : Int) := ⟨_, rfl⟩
  rw [← hR] at HSB ⊢
  generalize smt p L r (tvN p r) = sN at *
  clear hnL hnw hI hV H hln HS es hR
  go_enter Tryd.func16, Tryd.ntmps16
  go_wp2_with fail
  go_loop [12, 13, 14] (fun ov iv _ => ∃ k : Nat, k ≤ nL ∧ iv = .int .i64 k ∧ ov = .int .i64 (smz p (sel n) (fun k => (k : Int)) k)) (fun _ iv _ => nL - (intOf iv).toNat)
  case atStart => exact ⟨0, Nat.zero_le _, rfl, rfl⟩
  case round =>
    obtain ⟨k, hk, rfl, rfl⟩ := hrel
    by_cases hlt : k < nL
    · have hlt2 : (k : Int) < (nL : Int) := by omega
      have hks : IntKind.i64.wrap ((k : Int) + 1) = (k : Int) + 1 := by rw [IntKind.wrap_i64]; omega
      obtain ⟨m, hm⟩ : ∃ m, m = 20 + k := ⟨_, rfl⟩
      have em : 20 + (k : Int) = (m : Int) := by omega
      have wm : IntKind.i64.wrap (m : Int) = (m : Int) := by rw [IntKind.wrap_i64]; omega
      have lm : (m : Int) < (ln : Int) := by have := HLN.out; omega
      have cm := HNW.out m (by have := HNL.out; omega)
      have hbk : I64 (k : Int) := by unfold I64; omega
      have HML := hid (wmul_any p V (k : Int) (zat n m) w h3 h4 c0 hbk (HFN.out m))
      have bs0 := smz_bd h3 (sel n) (fun k => (k : Int)) k
      have hbs : I64 (smz p (sel n) (fun k => (k : Int)) k) := by unfold I64; omega
      have HAD : Hid (Calls Tryd.prog 25 #[.pointer (some ⟨V, 0, none⟩), .int .i64 (smz p (sel n) (fun k => (k : Int)) k), .int .i64 ((k : Int) * zat n m % (p : Int))] w fun e w' => e = .returned (.int .i64 (smz p (sel n) (fun k => (k : Int)) (k + 1))) ∧ w' = w) := by
        unfold Hid
        rw [smz, show sel n k = zat n m by rw [hm]; rfl, Int.mul_comm (zat n m), ← em_add2]
        exact wadd_any p V _ _ w h3 h4 c0 hbs (em_I64 h3 h4 _)
      obtain ⟨t2, ht2⟩ : ∃ t, t = smz p (sel n) (fun k => (k : Int)) (k + 1) := ⟨_, rfl⟩
      have HT2 := hid ht2
      rw [← ht2] at HAD
      generalize (k : Int) * zat n m % (p : Int) = t1 at *
      generalize smz p (sel n) (fun k => (k : Int)) k = t0 at *
      generalize zat n m = zm at *
      clear hm ht2 hbk bs0 hbs
      go_wp2_with fail
      refine HML.out.mono ?_
      rintro e w' ⟨rfl, hw'⟩
      have hw'' := hw'.symm
      subst hw''
      clear hw'
      go_wp2_with fail
      refine HAD.out.mono ?_
      rintro e w' ⟨rfl, hw'⟩
      have hw'' := hw'.symm
      subst hw''
      clear hw'
      go_wp2_with fail
      go_round
      case rel => exact ⟨k + 1, by omega, by go_num, by rw [HT2.out]⟩
      case measure => simp [intOf]; omega
    · have hlt2 : ¬ (k : Int) < (nL : Int) := by omega
      obtain rfl : k = nL := by omega
      generalize smz p (sel n) (fun k => (k : Int)) k = t0 at *
      go_wp2_with fail
      refine HSM.out.mono ?_
      rintro e w1 ⟨rfl, hb1⟩
      have HB1 := hid hb1
      clear hb1
      go_wp2_with fail
      refine (HSB.out w1 HB1.out).mono ?_
      rintro e w' ⟨rfl, hw'⟩
      have hw'' := hw'.symm
      subst hw''
      clear hw'
      go_wp2_with fail
      go_ret
      exact ⟨rfl, HB1.out⟩

/-- any rule -/
theorem wrule_any (p V : Nat) (L : List InsZ) (size out : Int) (r n : List Int) (aL : Option Addr) (cL : Nat) (ar : Option Addr) (cr : Nat) (an : Option Addr) (cn : Nat) (w : World) (H : VF p L size out r n) (hV : WW p V L size out r n aL cL ar cr an cn w) (i : Nat) (hi : i < L.length + 26) :
    Calls Tryd.prog 16 #[.pointer (some ⟨V, 0, none⟩), .int .i64 (i : Int)] w fun e w' => e = .returned (.int .i64 (zat (rls p L size out r n) i)) ∧ Below w.heap.size w w' := by
  by_cases hlo : i < L.length
  · rw [rls_low _ _ _ _ _ _ hlo]
    exact wrule_low p V L size out r n aL cL ar cr an cn w H hV i hlo
  · obtain ⟨j, rfl⟩ : ∃ j, i = L.length + j := ⟨i - L.length, by omega⟩
    rw [rls_high]
    have : j = 0 ∨ j = 1 ∨ j = 2 ∨ j = 3 ∨ j = 4 ∨ j = 5 ∨ j = 6 ∨ j = 7 ∨ j = 8 ∨ j = 9 ∨ j = 10 ∨ j = 11 ∨ j = 12 ∨ j = 13 ∨ j = 14 ∨ j = 15 ∨ j = 16 ∨ j = 17 ∨ j = 18 ∨ j = 19 ∨ j = 20 ∨ j = 21 ∨ j = 22 ∨ j = 23 ∨ j = 24 ∨ j = 25 := by omega
    rcases this with rfl | rfl | rfl | rfl | rfl | rfl | rfl | rfl | rfl | rfl | rfl | rfl | rfl | rfl | rfl | rfl | rfl | rfl | rfl | rfl | rfl | rfl | rfl | rfl | rfl | rfl
    · exact wrule_0 p V L size out r n aL cL ar cr an cn w H hV
    · exact wrule_1 p V L size out r n aL cL ar cr an cn w H hV
    · exact wrule_2 p V L size out r n aL cL ar cr an cn w H hV
    · exact wrule_3 p V L size out r n aL cL ar cr an cn w H hV
    · exact wrule_4 p V L size out r n aL cL ar cr an cn w H hV
    · exact wrule_5 p V L size out r n aL cL ar cr an cn w H hV
    · exact wrule_6 p V L size out r n aL cL ar cr an cn w H hV
    · exact wrule_7 p V L size out r n aL cL ar cr an cn w H hV
    · exact wrule_8 p V L size out r n aL cL ar cr an cn w H hV
    · exact wrule_9 p V L size out r n aL cL ar cr an cn w H hV
    · exact wrule_10 p V L size out r n aL cL ar cr an cn w H hV
    · exact wrule_11 p V L size out r n aL cL ar cr an cn w H hV
    · exact wrule_12 p V L size out r n aL cL ar cr an cn w H hV
    · exact wrule_13 p V L size out r n aL cL ar cr an cn w H hV
    · exact wrule_14 p V L size out r n aL cL ar cr an cn w H hV
    · exact wrule_15 p V L size out r n aL cL ar cr an cn w H hV
    · exact wrule_16 p V L size out r n aL cL ar cr an cn w H hV
    · exact wrule_17 p V L size out r n aL cL ar cr an cn w H hV
    · exact wrule_18 p V L size out r n aL cL ar cr an cn w H hV
    · exact wrule_19 p V L size out r n aL cL ar cr an cn w H hV
    · exact wrule_20 p V L size out r n aL cL ar cr an cn w H hV
    · exact wrule_21 p V L size out r n aL cL ar cr an cn w H hV
    · exact wrule_22 p V L size out r n aL cL ar cr an cn w H hV
    · exact wrule_23 p V L size out r n aL cL ar cr an cn w H hV
    · exact wrule_24 p V L size out r n aL cL ar cr an cn w H hV
    · exact wrule_25 p V L size out r n aL cL ar cr an cn w H hV

end Go.Proofs.YtaibngnabhmabajDoor

namespace Go.Proofs.YtaibngnabhmabajDoor
open Go.RowKit Go.Maps

/-- a new list of numbers -/
def NewL (l : List Int) (w : World) (e : Ending) (w' : World) : Prop := ∃ G, e = .returned (.slice (some ⟨G, 0, none⟩) l.length l.length) ∧ w.heap.size ≤ G ∧ w'.heap[G]? = some (.cells (l.map (Value.int .i64)).toArray 3 (0, 0)) ∧ Below w.heap.size w w'

set_option maxRecDepth 100000 in
set_option maxHeartbeats 2000000 in
theorem vsorted_any (p b V : Nat) (L : List InsZ) (size out : Int) (r n : List Int) (aL : Option Addr) (cL : Nat) (ar : Option Addr) (cr : Nat) (an : Option Addr) (cn : Nat) (w : World) (H : VF p L size out r n) (hV : VW p b V L size out r n aL cL ar cr an cn w) (ax ix bx jx : Int) (hx : I64 ax ∧ I64 ix ∧ I64 bx ∧ I64 jx) :
    Calls Tryd.prog 42 #[.pointer (some ⟨V, 0, none⟩), .int .i64 ax, .int .i64 ix, .int .i64 bx, .int .i64 jx] w (NewL [ord1 p ax bx, ord2 p ax ix bx jx] w) := by
  have h3 := H.h3
  have h4 := H.h4
  have e := em_I64 h3 h4
  obtain ⟨ha, hi, hb, hj⟩ := hx
  obtain ⟨c0, _, _, _, _, _⟩ := hV.cells
  have hpc := hV.fld
  obtain ⟨R, hR⟩ : ∃ R, R = NewL [ord1 p ax bx, ord2 p ax ix bx jx] w := ⟨_, rfl⟩
  rw [← hR]
  have HC1 : Hid (∀ W : World, W.cell? ⟨b, 0, none⟩ = some (.int .i64 p) → Calls Tryd.prog 54 #[.pointer (some ⟨b, 0, none⟩), .int .i64 bx, .int .i64 ax] W fun e w' => e = .returned (.int .i64 ((bx - ax) % (p : Int))) ∧ w' = W) := fun W h => sub_any p b _ _ W h3 h4 h hb.1 hb.2 ha.1 ha.2
  have HC2 : Hid (∀ W : World, W.cell? ⟨b, 0, none⟩ = some (.int .i64 p) → Calls Tryd.prog 54 #[.pointer (some ⟨b, 0, none⟩), .int .i64 jx, .int .i64 ix] W fun e w' => e = .returned (.int .i64 ((jx - ix) % (p : Int))) ∧ w' = W) := fun W h => sub_any p b _ _ W h3 h4 h hj.1 hj.2 hi.1 hi.2
  have HC3 : Hid (∀ (W : World), VW p b V L size out r n aL cL ar cr an cn W → Calls Tryd.prog 40 #[.pointer (some ⟨V, 0, none⟩), .int .i64 ((bx - ax) % (p : Int))] W fun e w' => e = .returned (.int .i64 (ord1 p ax bx)) ∧ ∃ m, w' = W.drewN m) := fun W h => by
    rw [show ord1 p ax bx = ((bx - ax) % (p : Int) * ((bx - ax) % (p : Int) - 1)) % (p : Int) from by rw [ord1, em_mul1, ← em_mul2 _ ((bx - ax) % (p : Int) - 1), em_sub1, em_mul2]]
    exact vchoice_any p b V L size out r n aL cL ar cr an cn W H h _ (e _)
  have HC4 : Hid (∀ W : World, W.cell? ⟨b, 0, none⟩ = some (.int .i64 p) → Calls Tryd.prog 54 #[.pointer (some ⟨b, 0, none⟩), .int .i64 ((bx - ax) % (p : Int)), .int .i64 1] W fun e w' => e = .returned (.int .i64 ((bx - ax - 1) % (p : Int))) ∧ w' = W) := fun W h => by
    rw [show (bx - ax - 1) % (p : Int) = ((bx - ax) % (p : Int) - 1) % (p : Int) from (em_sub1 _ _ _).symm]
    exact sub_any p b _ _ W h3 h4 h (e _).1 (e _).2 (by decide) (by decide)
  have HC5 : Hid (∀ W : World, W.cell? ⟨b, 0, none⟩ = some (.int .i64 p) → Calls Tryd.prog 53 #[.pointer (some ⟨b, 0, none⟩), .int .i64 ((bx - ax - 1) % (p : Int)), .int .i64 ((jx - ix) % (p : Int))] W fun e w' => e = .returned (.int .i64 (ord2 p ax ix bx jx)) ∧ w' = W) := fun W h => by
    rw [ord2, ← em_mul1, ← em_mul2]
    exact mul_any p b _ _ W h3 h4 h (e _).1 (e _).2 (e _).1 (e _).2
  have QP : Hid (∀ nn, (w.drewN nn).cell? ⟨b, 0, none⟩ = some (.int .i64 p)) := fun nn => hpc
  have HV := hid hV
  have HRR : Hid (∀ (W : World) (e : Ending) (w' : World), Below w.heap.size w W → e = .returned (.slice (some ⟨W.heap.size, 0, none⟩) 2 2) → w' = W.alloc (.cells #[.int .i64 (ord1 p ax bx), .int .i64 (ord2 p ax ix bx jx)] 3) → R e w') := fun W e w' h1 h2 h4 => by
    rw [hR, h2, h4]
    exact ⟨W.heap.size, rfl, h1.size, heap_alloc_new W _, h1.alloc h1.size _⟩
  clear hR ha hi hb hj H hV e
  generalize ord1 p ax bx = t4 at *
  generalize ord2 p ax ix bx jx = t5 at *
  generalize (bx - ax - 1) % (p : Int) = t3 at *
  generalize (bx - ax) % (p : Int) = t1 at *
  generalize (jx - ix) % (p : Int) = t2 at *
  go_enter Tryd.func42, Tryd.ntmps42
  go_wp2_with fail
  go_quiet (first
    | (go_at_call 54; first | with_reducible exact Calls.quiet_of_same (HC1.out _ (QP.out _)) | with_reducible exact Calls.quiet_of_same (HC2.out _ (QP.out _))))
  obtain ⟨W1, hW1⟩ : ∃ W1, W1 = w.drewN nq := ⟨_, rfl⟩
  have hb1 : Below w.heap.size w W1 := by rw [hW1]; exact below_drewN (Below.refl _ _) _
  replace c0 : W1.cell? ⟨V, 0, none⟩ = some (.pointer (some ⟨b, 0, none⟩)) := by rw [hW1]; exact c0
  have hV1 := HV.out.below hb1
  have HK : Hid (∀ W, Below W1.heap.size W1 W → W.cell? ⟨V, 0, none⟩ = some (.pointer (some ⟨b, 0, none⟩))) := fun W h => (hV1.below h).cells.1
  have HB1 := hid hb1
  have HD3 : Hid (∀ W, Below W1.heap.size W1 W → Calls Tryd.prog 40 #[.pointer (some ⟨V, 0, none⟩), .int .i64 t1] W fun e w' => e = .returned (.int .i64 t4) ∧ Below W1.heap.size W1 w') := fun W h => by
    refine (HC3.out W (hV1.below h)).mono ?_
    rintro e w' ⟨rfl, m, rfl⟩
    exact ⟨rfl, below_drewN h m⟩
  have HD4 : Hid (∀ W, Below W1.heap.size W1 W → Calls Tryd.prog 54 #[.pointer (some ⟨b, 0, none⟩), .int .i64 t1, .int .i64 1] W fun e w' => e = .returned (.int .i64 t3) ∧ Below W1.heap.size W1 w') := fun W h => by
    refine (HC4.out W (hV1.below h).fld).mono ?_
    rintro e w' ⟨rfl, rfl⟩
    exact ⟨rfl, h⟩
  have HD5 : Hid (∀ W, Below W1.heap.size W1 W → Calls Tryd.prog 53 #[.pointer (some ⟨b, 0, none⟩), .int .i64 t3, .int .i64 t2] W fun e w' => e = .returned (.int .i64 t5) ∧ Below W1.heap.size W1 w') := fun W h => by
    refine (HC5.out W (hV1.below h).fld).mono ?_
    rintro e w' ⟨rfl, rfl⟩
    exact ⟨rfl, h⟩
  have hdd : Below W1.heap.size W1 W1.drew := (Below.refl _ _).drew
  have hd0 : Below W1.heap.size W1 W1 := Below.refl _ _
  rw [← hW1]
  clear hW1 hb1 hV1 hpc QP HC1 HC2 HC3 HC4 HC5 HV
  go_wp2_with fail
  go_region_held3 (fun W => W.cell? ⟨V, 0, none⟩ = some (.pointer (some ⟨b, 0, none⟩))) (first | exact HK.out _ (by assumption) | exact HK.out _ (Below.alloc (by assumption) (Below.size (by assumption)) _))
    (first
      | (go_at_call 40; refine (HD3.out _ (by assumption)).mono ?_; rintro e w' ⟨rfl, hb'⟩)
      | (go_at_call 54; refine (HD4.out _ (by assumption)).mono ?_; rintro e w' ⟨rfl, hb'⟩)
      | (go_at_call 53; refine (HD5.out _ (by assumption)).mono ?_; rintro e w' ⟨rfl, hb'⟩))
  have HBZ := hid (HB1.out.trans (hb'.mono HB1.out.size))
  go_wp2_with fail
  exact HRR.out _ _ _ HBZ.out rfl rfl

end Go.Proofs.YtaibngnabhmabajDoor

namespace Go.Proofs.YtaibngnabhmabajDoor
open Go

section
variable {P : Program} {ops : Array Oper} {Q : Exit → Act → World → Prop} {md : Region.Mode} {C : World → Prop} {st : List Nat}

/-- what has come up waited for what had come up -/
def Cl (md : Region.Mode) (ops : Array Oper) (L : Array Bool) : Prop := ∀ (k : Nat) (o : Oper), ops[k]? = some o → L.getD k false = true → ∀ e ∈ o.after, Region.binds md e = true → L.getD e.on false = true
theorem getD_mono {L : Array Bool} {j x : Nat} (h : L.getD x false = true) : (L.setIfInBounds j true).getD x false = true := by
  by_cases e : j = x
  · subst e
    rcases Nat.lt_or_ge j L.size with g | g
    · simp [g]
    · simp [Array.getElem?_eq_none g] at h
  · simp only [Array.getD_eq_getD_getElem?] at *
    rw [Array.getElem?_setIfInBounds_ne e]; exact h

theorem Cl.set {L : Array Bool} (h : Cl md ops L) {j : Nat} (hj : ∀ o, ops[j]? = some o → ∀ e ∈ o.after, Region.binds md e = true → L.getD e.on false = true) : Cl md ops (L.setIfInBounds j true) := fun k o hk hl e he hb => by
  by_cases ejk : j = k
  · subst ejk; exact getD_mono (hj o hk e he hb)
  · refine getD_mono (h k o hk ?_ e he hb)
    simp only [Array.getD_eq_getD_getElem?] at *
    rw [Array.getElem?_setIfInBounds_ne ejk] at hl; exact hl

end
end Go.Proofs.YtaibngnabhmabajDoor

namespace Go.Proofs.YtaibngnabhmabajDoor
open Go

section
variable {P : Program} {ops : Array Oper} {Q : Exit → Act → World → Prop} {md : Region.Mode}

theorem count_unset {L : Array Bool} {i : Nat} (h : L.getD i true = false) : (L.setIfInBounds i true).toList.count false < L.toList.count false := by
  have hi : i < L.size := by
    rcases Nat.lt_or_ge i L.size with g | g
    · exact g
    · simp [Array.getElem?_eq_none g] at h
  have hv : L.toList[i]'(by simpa using hi) = false := by simpa [hi] using h
  rw [Array.toList_setIfInBounds]
  have hc := List.count_set (a := true) (b := false) (l := L.toList) (i := i) (by simpa using hi)
  rw [hv] at hc
  have hpos : 0 < L.toList.count false := List.count_pos_iff.2 (by rw [← hv]; exact List.getElem_mem _)
  simp only [show ((false : Bool) == false) = true from rfl, show ((true : Bool) == false) = false from rfl, if_true, Bool.false_eq_true, if_false] at hc
  omega

theorem wpAny_inv (Inv : Array Bool → Act → World → Prop)
    (hstep : ∀ L a w, Inv L a w → ∀ i ∈ Region.ready md ops L, wpOp P ops Q i (fun a' w' => Inv (L.setIfInBounds i true) a' w') a w)
    (hdone : ∀ L a w, Inv L a w → Region.ready md ops L = [] → Q .normal a w) :
    ∀ (fuel : Nat) (L : Array Bool) (a : Act) (w : World), L.toList.count false ≤ fuel → Inv L a w → wpAny P md ops Q fuel L a w := by
  intro fuel
  induction fuel with
  | zero =>
    intro L a w hc hI
    have hr : Region.ready md ops L = [] := by
      rcases hrr : Region.ready md ops L with _ | ⟨i, t⟩
      · rfl
      · have hi : i ∈ Region.ready md ops L := by rw [hrr]; simp
        have := count_unset (mem_ready.1 hi).1
        omega
    exact ⟨hr, hdone L a w hI hr⟩
  | succ fuel ih =>
    intro L a w hc hI
    refine ⟨fun h => hdone L a w hI h, fun i hi => wpOp_mono (fun a' w' h => ih _ _ _ ?_ h) (hstep L a w hI i hi)⟩
    have := count_unset (mem_ready.1 hi).1
    omega

/-- each waits for earlier ones alone -/
def lexB (md : Region.Mode) (ops : Array Oper) : Bool := (List.range ops.size).all fun k => match ops[k]? with | some o => o.after.all fun e => !(Region.binds md e) || decide (e.on < k) | none => true

theorem all_listed {L : Array Bool} (hl : lexB md ops = true) (hsz : L.size = ops.size) (hr : Region.ready md ops L = []) : ∀ k, k < ops.size → L.getD k false = true := by
  intro k
  induction k using Nat.strongRecOn with
  | _ k ih =>
    intro hk
    have ho : ops[k]? = some ops[k] := by simp [hk]
    rcases hx : L.getD k false with _ | _
    · exfalso
      have hk2 : k < L.size := by omega
      have hmem : k ∈ Region.ready md ops L := by
        refine mem_ready.2 ⟨by simp [hk2] at hx ⊢; exact hx, ops[k], ho, fun e he hb => ?_⟩
        have := List.all_eq_true.1 hl k (List.mem_range.2 hk)
        rw [ho] at this
        have := Array.all_eq_true'.1 this e he
        rw [hb] at this
        simp at this
        exact ih e.on this (by omega)
      rw [hr] at hmem
      cases hmem
    · rfl

theorem unlisted_of_ready {L : Array Bool} {i : Nat} (h : i ∈ Region.ready md ops L) : L.getD i false = false := by
  have h0 := (mem_ready.1 h).1
  rcases Nat.lt_or_ge i L.size with h' | h'
  · simp [h'] at h0 ⊢; exact h0
  · simp [Array.getElem?_eq_none h']
theorem edges_of_ready {L : Array Bool} {i : Nat} (h : i ∈ Region.ready md ops L) : ∀ o, ops[i]? = some o → ∀ e ∈ o.after, Region.binds md e = true → L.getD e.on false = true := fun o ho e he hb => by
  obtain ⟨_, o', ho', hall⟩ := mem_ready.1 h
  rw [ho'] at ho
  obtain rfl := Option.some.inj ho
  exact hall e he hb
theorem wpAny_invC (Inv : Array Bool → Act → World → Prop)
    (hstep : ∀ L a w, Cl md ops L → Inv L a w → ∀ i ∈ Region.ready md ops L, wpOp P ops Q i (fun a' w' => Inv (L.setIfInBounds i true) a' w') a w)
    (hdone : ∀ L a w, (∀ k, k < ops.size → L.getD k false = true) → Inv L a w → Q .normal a w) (hlex : lexB md ops = true) (a : Act) (w : World)
    (hI : Inv (Array.replicate ops.size false) a w) : wpAny P md ops Q ops.size (Array.replicate ops.size false) a w := by
  refine wpAny_inv (fun L a w => Cl md ops L ∧ L.size = ops.size ∧ Inv L a w) ?_ ?_ _ _ _ _ ?_ ⟨?_, by simp, hI⟩
  · intro L a w ⟨h1, h2, h4⟩ i hi
    exact wpOp_mono (fun a' w' h => ⟨h1.set (edges_of_ready hi), by simpa using h2, h⟩) (hstep L a w h1 h4 i hi)
  · intro L a w ⟨h1, h2, h4⟩ hr
    exact hdone L a w (all_listed hlex h2 hr) h4
  · simp
  · intro k o hk hl
    rcases Nat.lt_or_ge k ops.size with g | g
    · simp [g] at hl
    · simp [Array.getElem?_eq_none g] at hk

/-- places and what they hold: one more -/
def upd' (σ : Nat → Value) (i : Nat) (v : Value) : Nat → Value := fun k => if k = i then v else σ k

/-- each that has come up holds what is told of it -/
def Told (n : Nat) (F : World → Nat → Value → Prop) (L : Array Bool) (w : World) (σ : Nat → Value) : Prop := ∀ k, k < n → L.getD k false = true → F w k (σ k)

theorem Told.one {n : Nat} {F : World → Nat → Value → Prop} {L : Array Bool} {w w' : World} {σ : Nat → Value} (h : Told n F L w σ) {i : Nat} {v : Value} (hm : ∀ k u, F w k u → F w' k u) (hv : F w' i v) : Told n F (L.setIfInBounds i true) w' (upd' σ i v) := fun k hk hl => by
  unfold upd'
  by_cases e : k = i
  · rw [if_pos e, e]; exact hv
  · rw [if_neg e]
    refine hm _ _ (h k hk ?_)
    simp only [Array.getD_eq_getD_getElem?] at *
    rwa [Array.getElem?_setIfInBounds_ne (Ne.symm e)] at hl

/-- what a region keeps whose one store comes last -/
structure KeepS (n : Nat) (F : World → Nat → Value → Prop) (Fin : World → (Nat → Value) → Prop) (W0 : World) (gA : (Nat → Value) → Act) (L : Array Bool) (a : Act) (w : World) : Prop where
  below : RowKit.Below W0.heap.size W0 w
  told : ∃ σ, a = gA σ ∧ (L.getD n false = false → Told n F L w σ) ∧ (L.getD n false = true → Fin w σ)

theorem getD_set_other {L : Array Bool} {i k : Nat} (h : i ≠ k) : (L.setIfInBounds i true).getD k false = L.getD k false := by
  simp only [Array.getD_eq_getD_getElem?]
  rw [Array.getElem?_setIfInBounds_ne h]

theorem KeepS.next {n : Nat} {F : World → Nat → Value → Prop} {Fin : World → (Nat → Value) → Prop} {W0 : World} {gA : (Nat → Value) → Act} {L : Array Bool} {w w' : World} {σ : Nat → Value} {i : Nat} {v : Value} {a' : Act}
    (hb : RowKit.Below W0.heap.size W0 w') (hn : L.getD n false = false) (hi : i ≠ n) (ht : Told n F L w σ) (hm : ∀ k u, F w k u → F w' k u) (hv : F w' i v) (ha : a' = gA (upd' σ i v)) : KeepS n F Fin W0 gA (L.setIfInBounds i true) a' w' :=
  ⟨hb, upd' σ i v, ha, fun _ => ht.one hm hv, fun h => by rw [getD_set_other hi, hn] at h; cases h⟩
end
end Go.Proofs.YtaibngnabhmabajDoor

namespace Go.Proofs.YtaibngnabhmabajDoor
open Go

/-- what operands are, by a table of places -/
def evT (T : Nat → Value) : Operand → Value
  | .tmp t => T t
  | .const v => v
  | .global g => .pointer (some ⟨g, 0, none⟩)
  | .func f => .func (.func f) #[] #[]
theorem eval_evT (a : Act) : a.eval = evT (fun t => a.tmps.getD t undef) := by funext x; cases x <;> rfl
/-- the table: what the region writes, what was there else -/
def lkT (ds : List Nat) (vs : List Value) (a0 : Array Value) (t : Nat) : Value := match ds.findIdx? (· == t) with
  | some k => vs.getD k undef
  | none => a0.getD t undef
/-- all places written -/
def putAll : Array Value → List Nat → List Value → Array Value
  | a, d :: ds, v :: vs => putAll (a.setIfInBounds d v) ds vs
  | a, _, _ => a
def notSel : Op → Bool
  | .select _ _ => false
  | _ => true
/-- no guard, no select; an operand that the region writes is waited for -/
def fitB (md : Region.Mode) (ops : List Oper) (ds : List Nat) : Bool := ops.all fun o => o.guard.isNone && notSel o.op && o.op.operands.toList.all fun x => match x with
  | .tmp t => match ds.findIdx? (· == t) with
    | none => true
    | some k => o.after.toList.any fun e => e.on == k && Region.binds md e
  | _ => true
theorem findIdx_ds {ds : List Nat} {t k : Nat} (hn : ds.Nodup) (h : ds[k]? = some t) : ds.findIdx? (· == t) = some k := by
  obtain ⟨hk, he⟩ := List.getElem?_eq_some_iff.1 h
  rw [List.findIdx?_eq_some_iff_getElem]
  refine ⟨hk, by simp [he], fun j hj => ?_⟩
  have : ds[j] ≠ ds[k] := List.pairwise_iff_getElem.1 hn j k (by omega) hk hj
  simp only [Bool.not_eq_true, beq_eq_false_iff_ne, ne_eq]
  rw [← he]
  exact this
theorem findIdx_ds' {ds : List Nat} {t k : Nat} (h : ds.findIdx? (· == t) = some k) : ds[k]? = some t := by
  rw [List.findIdx?_eq_some_iff_getElem] at h
  obtain ⟨hk, he, _⟩ := h
  rw [List.getElem?_eq_getElem hk]
  simpa using he
theorem putAll_size : ∀ (a : Array Value) (ds : List Nat) (vs : List Value), (putAll a ds vs).size = a.size
  | a, [], _ => by simp [putAll]
  | a, _ :: _, [] => by simp [putAll]
  | a, d :: ds, v :: vs => by rw [putAll, putAll_size]; simp
theorem putAll_getD : ∀ (a : Array Value) (ds : List Nat) (vs : List Value), ds.Nodup → (∀ d, d ∈ ds → d < a.size) → vs.length = ds.length → ∀ t, (putAll a ds vs).getD t undef = lkT ds vs a t
  | a, [], vs, _, _, _, t => by simp [putAll, lkT]
  | a, d :: ds, [], _, _, h, t => by simp at h
  | a, d :: ds, v :: vs, hn, hl, h, t => by
    rw [List.nodup_cons] at hn
    rw [putAll, putAll_getD _ ds vs hn.2 (fun x hx => by simpa using hl x (List.mem_cons_of_mem _ hx)) (by simpa using h) t]
    unfold lkT
    rw [List.findIdx?_cons]
    by_cases e : d = t
    · subst e
      simp only [beq_self_eq_true, if_true]
      have hno : ds.findIdx? (· == d) = none := by
        rw [List.findIdx?_eq_none_iff]
        intro x hx
        simp only [beq_eq_false_iff_ne, ne_eq]
        exact fun e => hn.1 (e ▸ hx)
      rw [hno]
      have hd := hl d (List.mem_cons_self ..)
      simp [hd]
    · have e' : (d == t) = false := by simp [e]
      simp only [e', Bool.false_eq_true, if_false]
      cases hf : ds.findIdx? (· == t) with
      | none =>
        simp only [Option.map_none]
        simp only [Array.getD_eq_getD_getElem?]
        rw [Array.getElem?_setIfInBounds_ne e]
      | some k => simp

section
variable {P : Program} {ops : Array Oper} {Q : Exit → Act → World → Prop} {md : Region.Mode}

/-- an operation gives a value, whatever the world of its kind -/
def GivesV (P : Program) (Q : Exit → Act → World → Prop) (S : World → Prop) (T : Nat → Nat → Value) (V : Nat → Value) (o : Oper) : Prop :=
  ∀ (g : Nat) (w : World) (a : Act) (K : Act → World → Prop), S w → (∀ w', S w' → RowKit.Below w.heap.size w w' → K (a.put o.dst (V g)) w') → o.upon P a K Q ((execOp (evT (T g)) o).run P w)
/-- .. in a block of its own -/
def GivesG (P : Program) (Q : Exit → Act → World → Prop) (S : World → Prop) (Sg : Nat → World → Prop) (T : Nat → Nat → Value) (V : Nat → Value) (o : Oper) : Prop :=
  ∀ (g : Nat) (w : World) (a : Act) (K : Act → World → Prop), S w → (∀ g' w', S w' → Sg g' w' → K (a.put o.dst (V g')) w') → o.upon P a K Q ((execOp (evT (T g)) o).run P w)
theorem gives_val {S : World → Prop} {T : Nat → Nat → Value} {V : Nat → Value} {o : Oper} (h : ∀ g w, S w → (execOp (evT (T g)) o).run P w = .ok (.value (V g)) w) : GivesV P Q S T V o := fun g w a K hS hK => by
  rw [h g w hS]
  exact hK w hS (RowKit.Below.refl _ _)
theorem gives_call {S : World → Prop} {T : Nat → Nat → Value} {V : Nat → Value} {o : Oper} {f : FuncId} {args : Array Value} (h : ∀ g w, S w → (execOp (evT (T g)) o).run P w = .ok (.enter f args) w) (hc : ∀ g w, S w → Calls P f args w fun e w' => e = .returned (V g) ∧ S w' ∧ RowKit.Below w.heap.size w w') : GivesV P Q S T V o := fun g w a K hS hK => by
  rw [h g w hS]
  refine (hc g w hS).mono ?_
  rintro e w' ⟨rfl, h1, h2⟩
  exact hK w' h1 h2

/-- what is kept: each place that is written holds what the table says -/
def InvT (ds : List Nat) (vs : Nat → List Value) (S : World → Prop) (Sg : Nat → World → Prop) (m : Nat) (a0 : Act) (L : Array Bool) (a : Act) (w : World) : Prop :=
  L.size = m + 2 ∧ ∃ g, S w ∧ (L.getD m false = true → Sg g w) ∧ a.defers = a0.defers ∧ a.tmps.size = a0.tmps.size ∧ (∀ t, t ∉ ds → a.tmps.getD t undef = a0.tmps.getD t undef) ∧ ∀ k t, L.getD k false = true → ds[k]? = some t → a.tmps.getD t undef = (vs g).getD k undef

theorem InvT.next {ds : List Nat} {vs : Nat → List Value} {S : World → Prop} {Sg : Nat → World → Prop} {m i d : Nat} {a0 a : Act} {L : Array Bool} {w' : World} {g g' : Nat} (hz : L.size = m + 2) (hnd : ds.Nodup) (hd : ds[i]? = some d) (hlt : d < a0.tmps.size)
    (h3 : a.defers = a0.defers) (h4 : a.tmps.size = a0.tmps.size) (h5 : ∀ t, t ∉ ds → a.tmps.getD t undef = a0.tmps.getD t undef) (h6 : ∀ k t, L.getD k false = true → ds[k]? = some t → a.tmps.getD t undef = (vs g).getD k undef)
    (hS : S w') (hG : (L.setIfInBounds i true).getD m false = true → Sg g' w') (hsame : ∀ k, k ≠ i → L.getD k false = true → (vs g).getD k undef = (vs g').getD k undef) : InvT ds vs S Sg m a0 (L.setIfInBounds i true) (a.put (some d) ((vs g').getD i undef)) w' := by
  have hmem : d ∈ ds := List.mem_of_getElem? hd
  refine ⟨by simpa using hz, g', hS, hG, h3, by simp [Act.put, h4], fun t ht => ?_, fun k t hk ht => ?_⟩
  · have hne : d ≠ t := fun e => ht (e ▸ hmem)
    rw [← h5 t ht]
    simp only [Act.put, Array.getD_eq_getD_getElem?]
    rw [Array.getElem?_setIfInBounds_ne hne]
  · by_cases e : k = i
    · subst e
      rw [hd] at ht
      injection ht with ht
      subst ht
      have hd2 : d < a.tmps.size := by omega
      simp [Act.put, hd2]
    · have hne : d ≠ t := fun e2 => by
        subst e2
        have h1 := findIdx_ds hnd hd
        rw [findIdx_ds hnd ht] at h1
        injection h1 with h1
        exact e h1
      have hk' : L.getD k false = true := by
        rw [getD_set_other (fun h => e h.symm)] at hk; exact hk
      rw [← hsame k e hk', ← h6 k t hk' ht]
      simp only [Act.put, Array.getD_eq_getD_getElem?]
      rw [Array.getElem?_setIfInBounds_ne hne]

theorem replicate_off (n k : Nat) : (Array.replicate n false).getD k false = false := by
  simp only [Array.getD_eq_getD_getElem?, Array.getElem?_replicate]
  split <;> rfl

theorem wpAny_vals (ds : List Nat) (vs : Nat → List Value) (S : World → Prop) (Sg : Nat → World → Prop) (m : Nat) (a0 : Act) (w0 : World)
    (hds : ops.toList.map (·.dst) = ds.map some) (hnd : ds.Nodup) (hlt : ∀ d, d ∈ ds → d < a0.tmps.size) (hfit : fitB md ops.toList ds = true) (hlex : lexB md ops = true) (hsz : ops.size = m + 2) (hlast : ∃ o e, ops[m + 1]? = some o ∧ e ∈ o.after ∧ e.on = m ∧ Region.binds md e = true)
    (hvl : ∀ g, (vs g).length = ds.length) (hvs : ∀ g g' k, k < m → (vs g).getD k undef = (vs g').getD k undef) (hSg : ∀ g w w', Sg g w → RowKit.Below w.heap.size w w' → Sg g w')
    (hop : ∀ i o, ops[i]? = some o → i ≠ m → GivesV P Q S (fun g => lkT ds (vs g) a0.tmps) (fun g => (vs g).getD i undef) o)
    (hopm : ∀ o, ops[m]? = some o → GivesG P Q S Sg (fun g => lkT ds (vs g) a0.tmps) (fun g => (vs g).getD m undef) o)
    (hdone : ∀ g w, S w → Sg g w → Q .normal ⟨putAll a0.tmps ds (vs g), a0.defers⟩ w) (hS : S w0) :
    wpAny P md ops Q ops.size (Array.replicate ops.size false) a0 w0 := by
  have hdi : ∀ (i : Nat) (o : Oper), ops[i]? = some o → ∃ d, ds[i]? = some d ∧ o.dst = some d ∧ d < a0.tmps.size := fun i o ho => by
    have h1 : (ops.toList.map (fun x : Oper => x.dst))[i]? = some o.dst := by rw [List.getElem?_map]; simp [ho]
    rw [hds, List.getElem?_map] at h1
    cases hx : ds[i]? with
    | none => rw [hx] at h1; cases h1
    | some d => rw [hx] at h1; simp at h1; exact ⟨d, rfl, h1.symm, hlt d (List.mem_of_getElem? hx)⟩
  refine wpAny_invC (InvT ds vs S Sg m a0) ?step ?done hlex _ _ ⟨by simp [hsz], 0, hS, fun h => ?_, rfl, rfl, fun _ _ => rfl, fun k t h => ?_⟩
  case step =>
    rintro L a w hcl ⟨hz, g, h1, h2, h3, h4, h5, h6⟩ i hi
    obtain ⟨hun, o, ho, hed⟩ := mem_ready.1 hi
    obtain ⟨d, hd1, hd2, hd3⟩ := hdi i o ho
    have hmem : o ∈ ops.toList := Array.mem_toList_iff.2 (Array.mem_of_getElem? ho)
    have hf := List.all_eq_true.1 hfit o hmem
    simp only [Bool.and_eq_true] at hf
    have hguard : o.guard = none := by simpa using hf.1.1
    have hsel : ∀ cs b, o.op ≠ .select cs b := fun cs b e => by
      have := hf.1.2
      rw [e] at this
      simp [notSel] at this
    have hcong : execOp a.eval o = execOp (evT (lkT ds (vs g) a0.tmps)) o := by
      refine execOp_congr o hsel fun x hx => ?_
      rw [eval_evT]
      cases x with
      | tmp t =>
        show a.tmps.getD t undef = lkT ds (vs g) a0.tmps t
        have hx2 := List.all_eq_true.1 hf.2 _ (Array.mem_toList_iff.2 hx)
        simp only at hx2
        unfold lkT
        cases hfi : ds.findIdx? (· == t) with
        | none =>
          refine h5 t (fun hm => ?_)
          rw [List.findIdx?_eq_none_iff] at hfi
          have := hfi t hm
          simp at this
        | some k =>
          rw [hfi] at hx2
          simp only at hx2
          obtain ⟨e, he1, he2⟩ := List.any_eq_true.1 hx2
          simp only [Bool.and_eq_true, beq_iff_eq] at he2
          have hl := hed e (Array.mem_toList_iff.1 he1) he2.2
          rw [he2.1] at hl
          exact h6 k t hl (findIdx_ds' hfi)
      | const v => rfl
      | global g => rfl
      | func f => rfl
    refine wpOp_step ho (fun K' hK' => ?_)
    rw [if_pos (by unfold Region.wanted; rw [hguard])]
    unfold Oper.wp
    rw [hcong]
    have hLi : L.getD i false = false := unlisted_of_ready hi
    by_cases him : i = m
    · subst him
      refine hopm o ho g w a K' h1 (fun g' w' hS' hG' => hK' _ _ ?_)
      rw [hd2]
      refine InvT.next (g := g) (g' := g') hz hnd hd1 hd3 h3 h4 h5 h6 hS' (fun _ => hG') (fun k hki hk => ?_)
      have hkm : k < i ∨ i < k := by omega
      rcases hkm with hkm | hkm
      · exact hvs g g' k hkm
      · exfalso
        have hks : k < L.size := by
          rcases Nat.lt_or_ge k L.size with q | q
          · exact q
          · simp [Array.getElem?_eq_none q] at hk
        obtain ⟨o', e, ho', he, heon, heb⟩ := hlast
        have hk2 : k = i + 1 := by omega
        subst hk2
        have := hcl (i + 1) o' ho' hk e he heb
        rw [heon, hLi] at this
        cases this
    · refine hop i o ho him g w a K' h1 (fun w' hS' hB' => hK' _ _ ?_)
      rw [hd2]
      exact InvT.next (g := g) (g' := g) hz hnd hd1 hd3 h3 h4 h5 h6 hS' (fun h => hSg g w w' (h2 (by rw [getD_set_other him] at h; exact h)) hB') (fun _ _ _ => rfl)
  case done =>
    rintro L a w hall ⟨_, g, h1, h2, h3, h4, h5, h6⟩
    have ha : a = ⟨putAll a0.tmps ds (vs g), a0.defers⟩ := by
      obtain ⟨tm, df⟩ := a
      simp only at h3 h4 h5 h6
      subst h3
      congr 1
      apply Array.ext
      · rw [putAll_size, h4]
      · intro t ht1 ht2
        have hp := putAll_getD a0.tmps ds (vs g) hnd hlt (hvl g) t
        have e1 : tm.getD t undef = tm[t] := by simp [ht1]
        have e2 : (putAll a0.tmps ds (vs g)).getD t undef = (putAll a0.tmps ds (vs g))[t] := by simp [ht2]
        rw [← e1, ← e2, hp]
        unfold lkT
        cases hfi : ds.findIdx? (· == t) with
        | none =>
          refine h5 t (fun hm => ?_)
          rw [List.findIdx?_eq_none_iff] at hfi
          have := hfi t hm
          simp at this
        | some k =>
          have hk := findIdx_ds' hfi
          have hkl : k < ops.size := by
            have h7 := (List.getElem?_eq_some_iff.1 hk).1
            have h8 := congrArg List.length hds
            simp at h8
            omega
          exact h6 k t (hall k hkl) hk
    rw [ha]
    exact hdone g w h1 (h2 (hall m (by omega)))
  · rw [replicate_off] at h; cases h
  · rw [replicate_off] at h; cases h
/-- each operation of a list -/
def AllI (p : Nat → Oper → Prop) : Nat → List Oper → Prop
  | _, [] => True
  | i, o :: r => p i o ∧ AllI p (i + 1) r
theorem AllI.cons {p : Nat → Oper → Prop} {i : Nat} {o : Oper} {r : List Oper} (h : p i o) (hr : AllI p (i + 1) r) : AllI p i (o :: r) := ⟨h, hr⟩
theorem AllI.nil {p : Nat → Oper → Prop} {i : Nat} : AllI p i [] := trivial
theorem AllI.at {p : Nat → Oper → Prop} : ∀ {l : List Oper} {i : Nat}, AllI p i l → ∀ k o, l[k]? = some o → p (i + k) o
  | [], _, _, k, o, h => by simp at h
  | x :: r, i, ha, 0, o, h => by
    simp at h; subst h; exact ha.1
  | x :: r, i, ha, k + 1, o, h => by
    have := AllI.at ha.2 k o (by simpa using h)
    rw [show i + (k + 1) = i + 1 + k by omega]
    exact this

/-- the law, with the table as a letter -/
theorem wp_region_vals (ds : List Nat) (vs : Nat → List Value) (S : World → Prop) (Sg : Nat → World → Prop) (m : Nat) (a0 : Act) (w0 : World) (T : Nat → Nat → Value) (hT : ∀ g, T g = lkT ds (vs g) a0.tmps)
    (hds : ops.toList.map (·.dst) = ds.map some) (hnd : ds.Nodup) (hlt : (ds.all fun d => decide (d < a0.tmps.size)) = true) (hfit : fitB md ops.toList ds = true) (hlex : lexB md ops = true) (hsz : ops.size = m + 2) (hlast : ∃ o e, ops[m + 1]? = some o ∧ e ∈ o.after ∧ e.on = m ∧ Region.binds md e = true)
    (hvl : ∀ g, (vs g).length = ds.length) (hvs : ∀ g g' k, k < m → (vs g).getD k undef = (vs g').getD k undef) (hSg : ∀ g w w', Sg g w → RowKit.Below w.heap.size w w' → Sg g w')
    (hop : AllI (fun i o => if i = m then GivesG P Q S Sg T (fun g => T g (o.dst.getD 0)) o else GivesV P Q S T (fun g => T g (o.dst.getD 0)) o) 0 ops.toList)
    (hdone : ∀ g w, S w → Sg g w → Q .normal ⟨putAll a0.tmps ds (vs g), a0.defers⟩ w) (hS : S w0) :
    wpAny P md ops Q ops.size (Array.replicate ops.size false) a0 w0 := by
  have hTd : ∀ (i : Nat) (o : Oper), ops[i]? = some o → ∀ g, T g (o.dst.getD 0) = (vs g).getD i undef := fun i o ho g => by
    have h1 : (ops.toList.map (fun x : Oper => x.dst))[i]? = some o.dst := by rw [List.getElem?_map]; simp [ho]
    rw [hds, List.getElem?_map] at h1
    cases hx : ds[i]? with
    | none => rw [hx] at h1; cases h1
    | some d =>
      rw [hx] at h1
      simp at h1
      rw [← h1, hT]
      unfold lkT
      rw [Option.getD_some, findIdx_ds hnd hx]
  have hall := fun (i : Nat) (o : Oper) (ho : ops[i]? = some o) => AllI.at hop i o (by simpa using ho)
  refine wpAny_vals ds vs S Sg m a0 w0 hds hnd (fun d hd => of_decide_eq_true (List.all_eq_true.1 hlt d hd)) hfit hlex hsz hlast hvl hvs hSg (fun i o ho hi => ?_) (fun o ho => ?_) hdone hS
  · have h := hall i o ho
    rw [Nat.zero_add, if_neg hi] at h
    have e1 : (fun g => T g (o.dst.getD 0)) = fun g => (vs g).getD i undef := funext (hTd i o ho)
    have e2 : T = fun g => lkT ds (vs g) a0.tmps := funext hT
    rw [e1, e2] at h
    exact h
  · have h := hall m o ho
    rw [Nat.zero_add, if_pos rfl] at h
    have e1 : (fun g => T g (o.dst.getD 0)) = fun g => (vs g).getD m undef := funext (hTd m o ho)
    have e2 : T = fun g => lkT ds (vs g) a0.tmps := funext hT
    rw [e1, e2] at h
    exact h
end
end Go.Proofs.YtaibngnabhmabajDoor
