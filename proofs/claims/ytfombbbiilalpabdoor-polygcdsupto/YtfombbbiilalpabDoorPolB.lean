/- What package poly's Add and Sub answer, for every two lists. -/
import Derived.Test.YtfombbbiilalpabDoorPolA
namespace Go.Proofs.YtfombbbiilalpabDoor
open Go.RowKit

theorem at_any (cap i : Nat) (P : Nat → Prop) (a : Option Addr) (zs : List Int) (w : World) (hrow : RowP P w a zs) :
    Calls Tryd.prog 68 #[.slice a zs.length cap, .int .i64 i] w fun e w' => e = .returned (.int .i64 (zat zs i)) ∧ w' = w := by
  by_cases hlt : i < zs.length
  · obtain ⟨bl, ol, rfl, _, hcl⟩ := hrow i hlt
    have hlt2 : (i : Int) < (zs.length : Int) := by omega
    clear hrow
    generalize zat zs i = x at *
    go_enter Tryd.func68, Tryd.ntmps68
    go_wp2_with fail
    go_ret
    exact ⟨rfl, rfl⟩
  · have hz : Hid (zat zs i = 0) := by unfold Hid zat; simp [show zs.length ≤ i from by omega]
    have hlt2 : ¬ (i : Int) < (zs.length : Int) := by omega
    clear hrow
    go_enter Tryd.func68, Tryd.ntmps68
    go_wp2_with fail
    go_ret
    exact ⟨ret_int hz.out.symm, rfl⟩

theorem ret_slice {a : Option Addr} {n m c : Nat} (h : n = m) : Ending.returned (.slice a n c) = .returned (.slice a m c) := by rw [h]

/-- the longer length -/
def mxn (n m : Nat) : Nat := max n m

set_option maxHeartbeats 1000000 in
theorem place_add (p b c1 c2 : Nat) (op : Int → Int → Int) (P : Nat → Prop) (a1 a2 : Option Addr) (xs ys : List Int) (w : World) (h3 : 3 ≤ p) (hm : p ≤ 2147483647) (hp : w.cell? ⟨b, 0, none⟩ = some (.int .i64 p))
    (hop : ∀ (x y : Int) (w1 : World), w1.cell? ⟨b, 0, none⟩ = some (.int .i64 p) → -9223372036854775808 ≤ x → x ≤ 9223372036854775807 → -9223372036854775808 ≤ y → y ≤ 9223372036854775807 →
      Calls Tryd.prog 45 #[.pointer (some ⟨b, 0, none⟩), .int .i64 x, .int .i64 y] w1 fun e w' => e = .returned (.int .i64 (op x y % p)) ∧ w' = w1)
    (hn1 : xs.length ≤ 17592186044416) (hn2 : ys.length ≤ 17592186044416) (hf1 : Fits xs) (hf2 : Fits ys) (hr1 : RowP P w a1 xs) (hr2 : RowP P w a2 ys) (hP : ∀ k, P k → k < w.heap.size) :
    Calls Tryd.prog 44 #[.pointer (some ⟨b, 0, none⟩), .func (.func 45) #[.pointer (some ⟨b, 0, none⟩)] #[], .slice a1 xs.length c1, .slice a2 ys.length c2] w fun e w' =>
      e = .returned (.slice (some ⟨w.heap.size, 0, none⟩) (tpn p (fun j => op (zat xs j) (zat ys j)) (mxn xs.length ys.length)) (mxn xs.length ys.length)) ∧
      Cells w.heap.size 0 (mxn xs.length ys.length) (fun j => op (zat xs j) (zat ys j) % (p : Int)) w' ∧ Below w.heap.size w w' ∧ w'.heap.size = w.heap.size + 1 := by
  have hb : b < w.heap.size := by
    rcases Nat.lt_or_ge b w.heap.size with g | g
    · exact g
    · simp [World.cell?, Array.getElem?_eq_none g] at hp
  have HOP := hid hop
  have HF1 := hid hf1
  have HF2 := hid hf2
  have HR1 := hid hr1
  have HR2 := hid hr2
  have HPP := hid hP
  have hmx : (max (xs.length : Int) (ys.length : Int)) = ((mxn xs.length ys.length : Nat) : Int) := by unfold mxn; omega
  have hml : mxn xs.length ys.length ≤ 17592186044416 := by unfold mxn; omega
  clear hop hf1 hf2 hr1 hr2 hP
  have hmk := fun n h1 h2 w => run_make_row' (P := Tryd.prog) 22 3 (.int .i64 0) 8 Tryd.underlying22 Tryd.infoInt rfl .i64 .i64 n h1 h2 w
  have hmk2 := hmk (mxn xs.length ys.length) (by omega) (by omega)
  clear hmk
  generalize mxn xs.length ys.length = m at *
  go_enter Tryd.func44, Tryd.ntmps44
  go_wp2_with fail
  go_loopw [19] (fun iv wr => ∃ (k : Nat) (o : Nat → Int), k ≤ m ∧ iv = .int .i64 k ∧ Hid (Cells w.heap.size 0 m o wr) ∧ Hid (∀ j, j < k → o j = op (zat xs j) (zat ys j) % (p : Int)) ∧ Hid (Below w.heap.size w wr) ∧ wr.heap.size = w.heap.size + 1)
    (fun iv _ => m - (intOf iv).toNat)
  case atStart =>
    refine ⟨0, fun _ => 0, Nat.zero_le _, rfl, ⟨fun j hj => ?_, fun j hj => ?_⟩, fun j hj => by omega, ?_, by simp⟩
    · rw [World.cell?_alloc_at _ _ _ _ (by simp)]
      simp [madeCells, hj, Nat.mod_one]
    · simp
    · exact (Below.refl _ _).alloc (Nat.le_refl _) _
  case round =>
    obtain ⟨k, o, hk, rfl, hout, hoj, hbel, hsz⟩ := hrel
    by_cases hlt : k < m
    · have hlt2 : (k : Int) < (m : Int) := by omega
      have hok := hout.out.cells k hlt
      have hos := hout.out.soft k hlt
      rw [Nat.zero_add] at hok hos
      have hpc := (hbel.out.cell (p := ⟨b, 0, none⟩) hb).trans hp
      have HR1' : Hid (RowP P wr a1 xs) := fun i hi => by
        obtain ⟨bl, ol, h1, h2, h5⟩ := HR1.out i hi
        exact ⟨bl, ol, h1, h2, (hbel.out.cell (p := ⟨bl, ol + i, none⟩) (HPP.out _ h2)).trans h5⟩
      have HR2' : Hid (RowP P wr a2 ys) := fun i hi => by
        obtain ⟨bl, ol, h1, h2, h5⟩ := HR2.out i hi
        exact ⟨bl, ol, h1, h2, (hbel.out.cell (p := ⟨bl, ol + i, none⟩) (HPP.out _ h2)).trans h5⟩
      have HA1 := hid (at_any c1 k P a1 xs wr HR1'.out)
      have HA2 := hid (at_any c2 k P a2 ys wr HR2'.out)
      have HFX := HF1.out.all k
      have HFY := HF2.out.all k
      have HC := hid (hout.out.set (op (zat xs k) (zat ys k) % (p : Int)) hlt)
      have HB := hid (hbel.out.setCell (p := ⟨w.heap.size, 0 + k, none⟩) (by simp) (.int .i64 (op (zat xs k) (zat ys k) % (p : Int))))
      have HJ : Hid (∀ j, j < k + 1 → up o k (op (zat xs k) (zat ys k) % (p : Int)) j = op (zat xs j) (zat ys j) % (p : Int)) := fun j hj => by
        unfold up
        by_cases hjk : j = k
        · rw [if_pos hjk, hjk]
        · rw [if_neg hjk]; exact hoj.out j (by omega)
      rw [Nat.zero_add] at HC HB
      have HO2 := hid (HOP.out (zat xs k) (zat ys k) wr hpc HFX.1 HFX.2 HFY.1 HFY.2)
      generalize op (zat xs k) (zat ys k) % (p : Int) = z at *
      generalize zat xs k = x at *
      generalize zat ys k = y at *
      go_wp2_with fail
      refine HA1.out.mono ?_
      rintro e w2 ⟨rfl, rfl⟩
      go_wp2_with fail
      refine HA2.out.mono ?_
      rintro e w2 ⟨rfl, rfl⟩
      go_wp2_with fail
      refine HO2.out.mono ?_
      rintro e w2 ⟨rfl, rfl⟩
      go_wp2_with fail
      go_roundw
      case rel => exact ⟨k + 1, _, by omega, by go_num, HC, HJ, HB, by simp [World.setCell]; exact hsz⟩
      case measure => simp [intOf]; omega
    · have hlt2 : ¬ (k : Int) < (m : Int) := by omega
      have hpc := (hbel.out.cell (p := ⟨b, 0, none⟩) hb).trans hp
      have HC := hid (hout.out.congr (fun j hj => hoj.out j (by omega)))
      have HW := hid (without_any p b w.heap.size m m (fun j => op (zat xs j) (zat ys j) % (p : Int)) wr h3 hm hpc (by omega) (Nat.le_refl _)
        (fun j _ => by have := emod_bounds (op (zat xs j) (zat ys j)) p h3; show -9223372036854775808 ≤ op (zat xs j) (zat ys j) % (p : Int) ∧ op (zat xs j) (zat ys j) % (p : Int) ≤ 9223372036854775807; omega) HC.out)
      have HE : Hid (tpn p (fun j => op (zat xs j) (zat ys j) % (p : Int)) m = tpn p (fun j => op (zat xs j) (zat ys j)) m) := Pol.tp_mod p _ m
      go_wp2_with fail
      refine HW.out.mono ?_
      rintro e w2 ⟨rfl, rfl⟩
      go_wp2_with fail
      go_ret
      exact ⟨ret_slice HE.out, HC.out, hbel.out, hsz⟩

set_option maxHeartbeats 1000000 in
theorem place_sub (p b c1 c2 : Nat) (op : Int → Int → Int) (P : Nat → Prop) (a1 a2 : Option Addr) (xs ys : List Int) (w : World) (h3 : 3 ≤ p) (hm : p ≤ 2147483647) (hp : w.cell? ⟨b, 0, none⟩ = some (.int .i64 p))
    (hop : ∀ (x y : Int) (w1 : World), w1.cell? ⟨b, 0, none⟩ = some (.int .i64 p) → -9223372036854775808 ≤ x → x ≤ 9223372036854775807 → -9223372036854775808 ≤ y → y ≤ 9223372036854775807 →
      Calls Tryd.prog 46 #[.pointer (some ⟨b, 0, none⟩), .int .i64 x, .int .i64 y] w1 fun e w' => e = .returned (.int .i64 (op x y % p)) ∧ w' = w1)
    (hn1 : xs.length ≤ 17592186044416) (hn2 : ys.length ≤ 17592186044416) (hf1 : Fits xs) (hf2 : Fits ys) (hr1 : RowP P w a1 xs) (hr2 : RowP P w a2 ys) (hP : ∀ k, P k → k < w.heap.size) :
    Calls Tryd.prog 44 #[.pointer (some ⟨b, 0, none⟩), .func (.func 46) #[.pointer (some ⟨b, 0, none⟩)] #[], .slice a1 xs.length c1, .slice a2 ys.length c2] w fun e w' =>
      e = .returned (.slice (some ⟨w.heap.size, 0, none⟩) (tpn p (fun j => op (zat xs j) (zat ys j)) (mxn xs.length ys.length)) (mxn xs.length ys.length)) ∧
      Cells w.heap.size 0 (mxn xs.length ys.length) (fun j => op (zat xs j) (zat ys j) % (p : Int)) w' ∧ Below w.heap.size w w' ∧ w'.heap.size = w.heap.size + 1 := by
  have hb : b < w.heap.size := by
    rcases Nat.lt_or_ge b w.heap.size with g | g
    · exact g
    · simp [World.cell?, Array.getElem?_eq_none g] at hp
  have HOP := hid hop
  have HF1 := hid hf1
  have HF2 := hid hf2
  have HR1 := hid hr1
  have HR2 := hid hr2
  have HPP := hid hP
  have hmx : (max (xs.length : Int) (ys.length : Int)) = ((mxn xs.length ys.length : Nat) : Int) := by unfold mxn; omega
  have hml : mxn xs.length ys.length ≤ 17592186044416 := by unfold mxn; omega
  clear hop hf1 hf2 hr1 hr2 hP
  have hmk := fun n h1 h2 w => run_make_row' (P := Tryd.prog) 22 3 (.int .i64 0) 8 Tryd.underlying22 Tryd.infoInt rfl .i64 .i64 n h1 h2 w
  have hmk2 := hmk (mxn xs.length ys.length) (by omega) (by omega)
  clear hmk
  generalize mxn xs.length ys.length = m at *
  go_enter Tryd.func44, Tryd.ntmps44
  go_wp2_with fail
  go_loopw [19] (fun iv wr => ∃ (k : Nat) (o : Nat → Int), k ≤ m ∧ iv = .int .i64 k ∧ Hid (Cells w.heap.size 0 m o wr) ∧ Hid (∀ j, j < k → o j = op (zat xs j) (zat ys j) % (p : Int)) ∧ Hid (Below w.heap.size w wr) ∧ wr.heap.size = w.heap.size + 1)
    (fun iv _ => m - (intOf iv).toNat)
  case atStart =>
    refine ⟨0, fun _ => 0, Nat.zero_le _, rfl, ⟨fun j hj => ?_, fun j hj => ?_⟩, fun j hj => by omega, ?_, by simp⟩
    · rw [World.cell?_alloc_at _ _ _ _ (by simp)]
      simp [madeCells, hj, Nat.mod_one]
    · simp
    · exact (Below.refl _ _).alloc (Nat.le_refl _) _
  case round =>
    obtain ⟨k, o, hk, rfl, hout, hoj, hbel, hsz⟩ := hrel
    by_cases hlt : k < m
    · have hlt2 : (k : Int) < (m : Int) := by omega
      have hok := hout.out.cells k hlt
      have hos := hout.out.soft k hlt
      rw [Nat.zero_add] at hok hos
      have hpc := (hbel.out.cell (p := ⟨b, 0, none⟩) hb).trans hp
      have HR1' : Hid (RowP P wr a1 xs) := fun i hi => by
        obtain ⟨bl, ol, h1, h2, h5⟩ := HR1.out i hi
        exact ⟨bl, ol, h1, h2, (hbel.out.cell (p := ⟨bl, ol + i, none⟩) (HPP.out _ h2)).trans h5⟩
      have HR2' : Hid (RowP P wr a2 ys) := fun i hi => by
        obtain ⟨bl, ol, h1, h2, h5⟩ := HR2.out i hi
        exact ⟨bl, ol, h1, h2, (hbel.out.cell (p := ⟨bl, ol + i, none⟩) (HPP.out _ h2)).trans h5⟩
      have HA1 := hid (at_any c1 k P a1 xs wr HR1'.out)
      have HA2 := hid (at_any c2 k P a2 ys wr HR2'.out)
      have HFX := HF1.out.all k
      have HFY := HF2.out.all k
      have HC := hid (hout.out.set (op (zat xs k) (zat ys k) % (p : Int)) hlt)
      have HB := hid (hbel.out.setCell (p := ⟨w.heap.size, 0 + k, none⟩) (by simp) (.int .i64 (op (zat xs k) (zat ys k) % (p : Int))))
      have HJ : Hid (∀ j, j < k + 1 → up o k (op (zat xs k) (zat ys k) % (p : Int)) j = op (zat xs j) (zat ys j) % (p : Int)) := fun j hj => by
        unfold up
        by_cases hjk : j = k
        · rw [if_pos hjk, hjk]
        · rw [if_neg hjk]; exact hoj.out j (by omega)
      rw [Nat.zero_add] at HC HB
      have HO2 := hid (HOP.out (zat xs k) (zat ys k) wr hpc HFX.1 HFX.2 HFY.1 HFY.2)
      generalize op (zat xs k) (zat ys k) % (p : Int) = z at *
      generalize zat xs k = x at *
      generalize zat ys k = y at *
      go_wp2_with fail
      refine HA1.out.mono ?_
      rintro e w2 ⟨rfl, rfl⟩
      go_wp2_with fail
      refine HA2.out.mono ?_
      rintro e w2 ⟨rfl, rfl⟩
      go_wp2_with fail
      refine HO2.out.mono ?_
      rintro e w2 ⟨rfl, rfl⟩
      go_wp2_with fail
      go_roundw
      case rel => exact ⟨k + 1, _, by omega, by go_num, HC, HJ, HB, by simp [World.setCell]; exact hsz⟩
      case measure => simp [intOf]; omega
    · have hlt2 : ¬ (k : Int) < (m : Int) := by omega
      have hpc := (hbel.out.cell (p := ⟨b, 0, none⟩) hb).trans hp
      have HC := hid (hout.out.congr (fun j hj => hoj.out j (by omega)))
      have HW := hid (without_any p b w.heap.size m m (fun j => op (zat xs j) (zat ys j) % (p : Int)) wr h3 hm hpc (by omega) (Nat.le_refl _)
        (fun j _ => by have := emod_bounds (op (zat xs j) (zat ys j)) p h3; show -9223372036854775808 ≤ op (zat xs j) (zat ys j) % (p : Int) ∧ op (zat xs j) (zat ys j) % (p : Int) ≤ 9223372036854775807; omega) HC.out)
      have HE : Hid (tpn p (fun j => op (zat xs j) (zat ys j) % (p : Int)) m = tpn p (fun j => op (zat xs j) (zat ys j)) m) := Pol.tp_mod p _ m
      go_wp2_with fail
      refine HW.out.mono ?_
      rintro e w2 ⟨rfl, rfl⟩
      go_wp2_with fail
      go_ret
      exact ⟨ret_slice HE.out, HC.out, hbel.out, hsz⟩

theorem add_list (p : Nat) (xs ys : List Int) : (Pol.padd p xs ys).length = tpn p (fun j => zat xs j + zat ys j) (mxn xs.length ys.length) ∧ ∀ j, j < (Pol.padd p xs ys).length → zat (Pol.padd p xs ys) j = (zat xs j + zat ys j) % (p : Int) :=
  ⟨Pol.mk_length _ _ _, fun j hj => by rw [Pol.padd, Pol.mk_length] at hj; exact Pol.mk_at p _ _ j hj⟩
theorem sub_list (p : Nat) (xs ys : List Int) : (Pol.psub p xs ys).length = tpn p (fun j => zat xs j - zat ys j) (mxn xs.length ys.length) ∧ ∀ j, j < (Pol.psub p xs ys).length → zat (Pol.psub p xs ys) j = (zat xs j - zat ys j) % (p : Int) :=
  ⟨Pol.mk_length _ _ _, fun j hj => by rw [Pol.psub, Pol.mk_length] at hj; exact Pol.mk_at p _ _ j hj⟩

theorem padd_any (p b c1 c2 : Nat) (P : Nat → Prop) (a1 a2 : Option Addr) (xs ys : List Int) (w : World) (h3 : 3 ≤ p) (hm : p ≤ 2147483647) (hp : w.cell? ⟨b, 0, none⟩ = some (.int .i64 p))
    (hn1 : xs.length ≤ 17592186044416) (hn2 : ys.length ≤ 17592186044416) (hf1 : Fits xs) (hf2 : Fits ys) (hr1 : RowP P w a1 xs) (hr2 : RowP P w a2 ys) (hP : ∀ k, P k → k < w.heap.size) :
    Calls Tryd.prog 13 #[.pointer (some ⟨b, 0, none⟩), .slice a1 xs.length c1, .slice a2 ys.length c2] w fun e w' => ∃ cap,
      e = .returned (.slice (some ⟨w.heap.size, 0, none⟩) (Pol.padd p xs ys).length cap) ∧ (Pol.padd p xs ys).length ≤ cap ∧
      Cells w.heap.size 0 (Pol.padd p xs ys).length (zat (Pol.padd p xs ys)) w' ∧ Below w.heap.size w w' ∧ w'.heap.size = w.heap.size + 1 := by
  have hpl := hid (place_add p b c1 c2 (· + ·) P a1 a2 xs ys w h3 hm hp (fun x y w1 hc h1 h2 h4 h5 => add_any p b x y w1 h3 hm hc h1 h2 h4 h5) hn1 hn2 hf1 hf2 hr1 hr2 hP)
  obtain ⟨hl, hz⟩ := add_list p xs ys
  have hle := tpn_le p (fun j => zat xs j + zat ys j) (mxn xs.length ys.length)
  rw [← hl] at hpl hle
  have HZ := hid hz
  clear hl hz hf1 hf2 hr1 hr2 hP
  go_enter Tryd.func13, Tryd.ntmps13
  go_wp2_with fail
  refine hpl.out.mono ?_
  rintro e w1 ⟨rfl, hc, hb, hs⟩
  have HC := hid hc
  have HB := hid hb
  clear hc hb
  go_wp2_with fail
  go_ret
  exact ⟨_, rfl, hle, (HC.out.less hle).congr (fun j hj => (HZ.out j hj).symm), HB.out, hs⟩

theorem psub_any (p b c1 c2 : Nat) (P : Nat → Prop) (a1 a2 : Option Addr) (xs ys : List Int) (w : World) (h3 : 3 ≤ p) (hm : p ≤ 2147483647) (hp : w.cell? ⟨b, 0, none⟩ = some (.int .i64 p))
    (hn1 : xs.length ≤ 17592186044416) (hn2 : ys.length ≤ 17592186044416) (hf1 : Fits xs) (hf2 : Fits ys) (hr1 : RowP P w a1 xs) (hr2 : RowP P w a2 ys) (hP : ∀ k, P k → k < w.heap.size) :
    Calls Tryd.prog 14 #[.pointer (some ⟨b, 0, none⟩), .slice a1 xs.length c1, .slice a2 ys.length c2] w fun e w' => ∃ cap,
      e = .returned (.slice (some ⟨w.heap.size, 0, none⟩) (Pol.psub p xs ys).length cap) ∧ (Pol.psub p xs ys).length ≤ cap ∧
      Cells w.heap.size 0 (Pol.psub p xs ys).length (zat (Pol.psub p xs ys)) w' ∧ Below w.heap.size w w' ∧ w'.heap.size = w.heap.size + 1 := by
  have hpl := hid (place_sub p b c1 c2 (· - ·) P a1 a2 xs ys w h3 hm hp (fun x y w1 hc h1 h2 h4 h5 => sub_any p b x y w1 h3 hm hc h1 h2 h4 h5) hn1 hn2 hf1 hf2 hr1 hr2 hP)
  obtain ⟨hl, hz⟩ := sub_list p xs ys
  have hle := tpn_le p (fun j => zat xs j - zat ys j) (mxn xs.length ys.length)
  rw [← hl] at hpl hle
  have HZ := hid hz
  clear hl hz hf1 hf2 hr1 hr2 hP
  go_enter Tryd.func14, Tryd.ntmps14
  go_wp2_with fail
  refine hpl.out.mono ?_
  rintro e w1 ⟨rfl, hc, hb, hs⟩
  have HC := hid hc
  have HB := hid hb
  clear hc hb
  go_wp2_with fail
  go_ret
  exact ⟨_, rfl, hle, (HC.out.less hle).congr (fun j hj => (HZ.out j hj).symm), HB.out, hs⟩

end Go.Proofs.YtfombbbiilalpabDoor
