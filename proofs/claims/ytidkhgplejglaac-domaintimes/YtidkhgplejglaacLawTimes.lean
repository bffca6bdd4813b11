/- The law DomainTimes answers true: the values of a product are the products of the values; the sum of a polynomial's values is size times its place 0. -/
import Derived.Test.YtidkhgplejglaacDomT
namespace Go.Proofs.Ytidkhgplejglaac
open Go.RowKit

theorem sm_mod_succ (p : Nat) (f : Nat → Int) (k : Nat) : (Dom.sm f k % (p : Int) + f k) % (p : Int) = Dom.sm f (k + 1) % (p : Int) := by
  simp only [Dom.sm]
  rw [Int.add_emod, Int.emod_emod_of_dvd _ (Int.dvd_refl _), ← Int.add_emod]

set_option maxRecDepth 1000000 in
set_option maxHeartbeats 4000000 in
theorem times_walk (p n s : Int) (a1 a2 : Option Addr) (c1 c2 : Nat) (xs ys : List Int) (w : World) (hp1 : -9223372036854775808 ≤ p) (hp2 : p ≤ 9223372036854775807) (hn1 : -9223372036854775808 ≤ n) (hn2 : n ≤ 9223372036854775807) (hs1 : -9223372036854775808 ≤ s) (hs2 : s ≤ 9223372036854775807)
    (hlx : xs.length ≤ 17592186043904) (hly : ys.length ≤ 17592186043904) (hf1 : Fits xs) (hf2 : Fits ys) (hl1 : RowB w.heap.size w a1 xs) (hl2 : RowB w.heap.size w a2 ys) :
    Calls Try.prog 4 #[.int .i64 p, .int .i64 n, .int .i64 s, .slice a1 xs.length c1, .slice a2 ys.length c2] w fun e w' => e = .returned (.bool true) ∧ Below w.heap.size w w' := by
  have HF1 := hid hf1
  have HF2 := hid hf2
  have HR1 := hid hl1
  have HR2 := hid hl2
  clear hf1 hf2 hl1 hl2
  go_enter Try.func4, Try.ntmps4
  go_wp2_with fail
  refine (lives2_any w).mono ?_
  rintro e w1 ⟨rfl, hb1⟩
  have HB1 := hid hb1
  have HA1 : Hid (Alive w1 [(a1, xs), (a2, ys)]) := ((Alive.nil w1).cons ((HR2.out.below hb1).mono hb1.size)).cons ((HR1.out.below hb1).mono hb1.size)
  clear hb1 HR1 HR2
  by_cases hgood : Good p n s
  · obtain ⟨q, k, rfl, rfl, hg⟩ := hgood
    have HG := hid hg
    obtain ⟨hpr, h3, h4, hk, hd, hs⟩ := hg
    have hnp : 0 < 2 ^ k := Nat.pow_pos (by decide)
    have hnl := two_pow_le hk
    have HPR := hid hpr
    clear hpr hd hs hp1 hp2 hn1 hn2
    have HPY := hid (plain_yes q k s w1 HG.out hs1 hs2)
    have HRT : Hid (∀ r : Nat, RootIs q ((2 ^ k : Nat) : Int) r → Dom.Ord q (r : Int) (2 ^ k) ∧ r < q) := fun r h => root_ord2 HG.out.pr h3 HG.out.hd h
    have HVAL : Hid (∀ (d cap : Nat) (r t : Int) (a : Option Addr) (zs : List Int) (w2 : World), w2.cell? ⟨w1.heap.size, 0, none⟩ = some (.int .i64 q) → DomAt w2 d w1.heap.size ((2 ^ k : Nat) : Int) r t → 0 ≤ r → r < q → Dom.Ord q r (2 ^ k) → 0 ≤ t → t < q → zs.length ≤ 281474976710656 → Fits zs → RowB w2.heap.size w2 a zs →
        Calls Try.prog 13 #[.pointer (some ⟨d, 0, none⟩), .slice a zs.length cap] w2 fun e w' =>
          e = .returned (.slice (some ⟨w2.heap.size, 0, none⟩) (2 ^ k) (2 ^ k)) ∧ w'.rowIs w2.heap.size 3 (2 ^ k) (fun j => .int .i64 (evz q zs (Dom.pt q t r j))) ∧ Below w2.heap.size w2 w' ∧ w2.heap.size < w'.heap.size) :=
      fun d cap r t a zs w2 z1 z2 z3 z4 z5 z6 z7 z8 z9 z10 => values_any q w1.heap.size d k (2 ^ k) cap r t (· < w2.heap.size) a zs w2 HPR.out h3 h4 z1 z2 hk rfl z3 z4 z5 z6 z7 z8 z9 z10 (fun _ h => h)
    generalize 2 ^ k = N at *
    go_wp2_with fail
    refine HPY.out.mono ?_
    rintro e w2 ⟨d, r, rfl, hr, hc2, hda, hb2⟩
    obtain ⟨hord, hrlt⟩ := HRT.out r hr
    have HORD := hid hord
    obtain ⟨t0, t1⟩ := emod_bounds s q h3
    generalize s % (q : Int) = t at *
    have HC2 := hid hc2
    have HDA := hid hda
    have hlt2 := heap_lt hc2
    have HB2 : Hid (Below w.heap.size w w2) := HB1.out.trans (hb2.mono HB1.out.size)
    have HA2 := hid (HA1.out.step hb2)
    have hdl := hda.lt
    clear hr hord hc2 hda hb2 HPY HRT HA1 HB1
    -- what lies still, whatever is made behind
    have HFC : Hid (∀ wc : World, Below w2.heap.size w2 wc → wc.cell? ⟨w1.heap.size, 0, none⟩ = some (.int .i64 q)) := fun wc h => (h.cell (p := ⟨w1.heap.size, 0, none⟩) hlt2).trans HC2.out
    have HFD : Hid (∀ wc : World, Below w2.heap.size w2 wc → DomAt wc d w1.heap.size N r t) := fun wc h => HDA.out.below h hdl
    go_wp2_with fail
    refine (pmul_any q w1.heap.size c1 c2 (· < w2.heap.size) a1 a2 xs ys w2 HPR.out h3 h4 HC2.out (by omega) HF1.out HF2.out (HA2.out.at 0 rfl) (HA2.out.at 1 rfl) (fun _ h => h)).mono ?_
    rintro e w3 ⟨am, cm, rfl, hrm, _, hb3⟩
    have HA3 : Hid (Alive w3 [(am, Pol.pmul q xs ys), (a1, xs), (a2, ys)]) := (HA2.out.step hb3).cons hrm.row
    have HB3 := hid hb3
    have hml : (Pol.pmul q xs ys).length ≤ 281474976710656 := by have := Pol.pmul_le q xs ys; omega
    have HF3 : Hid (Fits (Pol.pmul q xs ys)) := fun j hj => by
      have := (Pol.mk_can (p := q) (by omega) (Pol.mul (Pol.cf xs) (Pol.cf ys)) (xs.length + ys.length)).elem' (by omega) j
      have e : zat (Pol.pmul q xs ys) j = Pol.cf (Pol.pmul q xs ys) j := rfl
      rw [e, Pol.pmul]
      omega
    clear hrm hb3 HA2
    go_wp2_with fail
    refine (HVAL.out d c1 r t a1 xs w3 (HFC.out _ HB3.out) (HFD.out _ HB3.out) (by omega) (by omega) HORD.out t0 t1 (by omega) HF1.out (HA3.out.at 1 rfl)).mono ?_
    rintro e w4 ⟨rfl, hx, hb4, hlt4⟩
    have HX4 := hid hx
    have HA4 := hid (HA3.out.step hb4)
    have HB4 : Hid (Below w2.heap.size w2 w4) := HB3.out.trans (hb4.mono HB3.out.size)
    clear hx hb4 HA3
    go_wp2_with fail
    refine (HVAL.out d c2 r t a2 ys w4 (HFC.out _ HB4.out) (HFD.out _ HB4.out) (by omega) (by omega) HORD.out t0 t1 (by omega) HF2.out (HA4.out.at 2 rfl)).mono ?_
    rintro e w5 ⟨rfl, hy, hb5, hlt5⟩
    have HX5 := hid (HX4.out.of_block (hb5.block _ hlt4))
    have HY5 := hid hy
    have HA5 := hid (HA4.out.step hb5)
    have HB5 : Hid (Below w2.heap.size w2 w5) := HB4.out.trans (hb5.mono HB4.out.size)
    clear hy hb5 HA4 HX4
    go_wp2_with fail
    refine (HVAL.out d cm r t am (Pol.pmul q xs ys) w5 (HFC.out _ HB5.out) (HFD.out _ HB5.out) (by omega) (by omega) HORD.out t0 t1 hml HF3.out (HA5.out.at 0 rfl)).mono ?_
    rintro e w6 ⟨rfl, hz, hb6, hlt6⟩
    have HX6 := hid (HX5.out.of_block (hb6.block _ (Nat.lt_trans hlt4 hlt5)))
    have HY6 := hid (HY5.out.of_block (hb6.block _ hlt5))
    have HZ6 := hid hz
    have HA6 := hid (HA5.out.step hb6)
    have HB6 : Hid (Below w2.heap.size w2 w6) := HB5.out.trans (hb6.mono HB5.out.size)
    have HC6 := hid (HFC.out _ HB6.out)
    have HEND : Hid (Below w.heap.size w w6) := HB2.out.trans (HB6.out.mono HB2.out.size)
    clear hz hb6 HA5 HX5 HY5 HFC HFD HVAL
    have hne : ((N : Int) != (N : Int)) = false := by simp
    have HSUM : Hid (tpn q (zat xs) xs.length ≤ N → Dom.sm (fun i => evz q xs (Dom.pt q t r i)) N % (q : Int) = zat xs 0 * (N : Int) % (q : Int)) := fun h => sum_evz HPR.out t xs HORD.out h
    go_wp2_with fail
    go_loopw [18, 19] (fun sv iv wr => ∃ (i m : Nat), i ≤ N ∧ iv = .int .i64 i ∧ sv = .int .i64 (Dom.sm (fun i => evz q xs (Dom.pt q t r i)) i % (q : Int)) ∧ Hid (wr = w6.drewN m)) (fun _ iv _ => N - (intOf iv).toNat)
    case atStart => exact ⟨0, 0, Nat.zero_le _, rfl, rfl, rfl⟩
    case round =>
      obtain ⟨i, m, hi, rfl, rfl, HW⟩ := hrel
      by_cases hlt : i < N
      · have hlt' : (i : Int) < (N : Int) := by omega
        have x1 : wr.cell? ⟨w3.heap.size, i, none⟩ = some (.int .i64 (evz q xs (Dom.pt q t r i))) := by rw [HW.out]; exact HX6.out.cell hlt
        have y1 : wr.cell? ⟨w4.heap.size, i, none⟩ = some (.int .i64 (evz q ys (Dom.pt q t r i))) := by rw [HW.out]; exact HY6.out.cell hlt
        have z1 : wr.cell? ⟨w5.heap.size, i, none⟩ = some (.int .i64 (evz q (Pol.pmul q xs ys) (Dom.pt q t r i))) := by rw [HW.out]; exact HZ6.out.cell hlt
        have hpc : wr.cell? ⟨w1.heap.size, 0, none⟩ = some (.int .i64 q) := by rw [HW.out]; exact HC6.out
        obtain ⟨xb0, xb1⟩ := evz_bounds q xs (Dom.pt q t r i) h3
        obtain ⟨yb0, yb1⟩ := evz_bounds q ys (Dom.pt q t r i) h3
        have HEM := hid (evz_mul (p := q) (by omega) xs ys (Dom.pt q t r i))
        have HSS := hid (sm_mod_succ q (fun i => evz q xs (Dom.pt q t r i)) i)
        obtain ⟨sb0, sb1⟩ := emod_bounds (Dom.sm (fun i => evz q xs (Dom.pt q t r i)) i) q h3
        have HMU : Hid (∀ w7 : World, w7.cell? ⟨w1.heap.size, 0, none⟩ = some (.int .i64 q) → Calls Try.prog 14 #[.pointer (some ⟨w1.heap.size, 0, none⟩), .int .i64 (evz q xs (Dom.pt q t r i)), .int .i64 (evz q ys (Dom.pt q t r i))] w7 fun e w' => e = .returned (.int .i64 (evz q (Pol.pmul q xs ys) (Dom.pt q t r i))) ∧ w' = w7) :=
          fun w7 hc => by rw [← HEM.out]; exact mul_any q w1.heap.size _ _ w7 h3 h4 hc (by omega) (by omega) (by omega) (by omega)
        have HAD : Hid (∀ w7 : World, w7.cell? ⟨w1.heap.size, 0, none⟩ = some (.int .i64 q) → Calls Try.prog 15 #[.pointer (some ⟨w1.heap.size, 0, none⟩), .int .i64 (Dom.sm (fun i => evz q xs (Dom.pt q t r i)) i % (q : Int)), .int .i64 (evz q xs (Dom.pt q t r i))] w7 fun e w' => e = .returned (.int .i64 (Dom.sm (fun i => evz q xs (Dom.pt q t r i)) (i + 1) % (q : Int))) ∧ w' = w7) :=
          fun w7 hc => by rw [← HSS.out]; exact add_any q w1.heap.size _ _ w7 h3 h4 hc (by omega) (by omega) (by omega) (by omega)
        obtain ⟨sn, hsn⟩ : ∃ sn, sn = Dom.sm (fun i => evz q xs (Dom.pt q t r i)) (i + 1) % (q : Int) := ⟨_, rfl⟩
        have HSN := hid hsn
        rw [← hsn] at HAD
        clear hsn HEM HSS
        generalize Dom.sm (fun i => evz q xs (Dom.pt q t r i)) i % (q : Int) = sk at *
        generalize evz q (Pol.pmul q xs ys) (Dom.pt q t r i) = vz at *
        generalize evz q ys (Dom.pt q t r i) = vy at *
        generalize evz q xs (Dom.pt q t r i) = vx at *
        have hzz : (vz != vz) = false := by simp
        go_wp2_with fail
        go_quiet (first
          | (go_at_call 14; exact Calls.quiet_of_same (HMU.out _ hpc)))
        have x2 : (wr.drewN nq).cell? ⟨w3.heap.size, i, none⟩ = some (.int .i64 vx) := x1
        have z2 : (wr.drewN nq).cell? ⟨w5.heap.size, i, none⟩ = some (.int .i64 vz) := z1
        have hpc2 : (wr.drewN nq).cell? ⟨w1.heap.size, 0, none⟩ = some (.int .i64 q) := hpc
        have HW2 : Hid (wr.drewN nq = w6.drewN (m + nq)) := by unfold Hid; rw [HW.out, World.drewN_drewN]
        clear x1 y1 z1 hpc HMU HW
        generalize wr.drewN nq = wq at *
        go_wp2_with fail
        refine (HAD.out _ hpc2).mono ?_
        rintro e w7 ⟨rfl, rfl⟩
        go_wp2_with fail
        go_roundw
        case rel => exact ⟨i + 1, _, by omega, by go_num, by rw [HSN.out], HW2⟩
        case measure => simp [intOf]; omega
      · have hlt' : ¬ (i : Int) < (N : Int) := by omega
        obtain rfl : i = N := by omega
        have HPC : Hid (wr.cell? ⟨w1.heap.size, 0, none⟩ = some (.int .i64 q)) := by unfold Hid; rw [HW.out]; exact HC6.out
        have HAW : Hid (Alive wr [(am, Pol.pmul q xs ys), (a1, xs), (a2, ys)]) := by unfold Hid; rw [HW.out]; exact HA6.out.drewN m
        have HEW : Hid (Below w.heap.size w wr) := by unfold Hid; rw [HW.out]; exact below_drewN HEND.out m
        have HDG := hid (deg_any q w1.heap.size xs.length c1 (· < wr.heap.size) a1 (zat xs) wr h3 h4 HPC.out (by omega) HF1.out (HAW.out.at 1 rfl))
        by_cases hge : (i : Int) ≤ (tpn q (zat xs) xs.length : Int) - 1
        · generalize (tpn q (zat xs) xs.length : Int) - 1 = td at *
          go_wp2_with fail
          refine HDG.out.mono ?_
          rintro e w7 ⟨rfl, rfl⟩
          go_wp2_with fail
          go_ret
          exact ⟨rfl, HEW.out⟩
        · have HSE := hid (HSUM.out (by omega))
          generalize (tpn q (zat xs) xs.length : Int) - 1 = td at *
          have hx0 := HF1.out.all 0
          generalize Dom.sm (fun i => evz q xs (Dom.pt q t r i)) i % (q : Int) = sk at *
          go_wp2_with fail
          refine HDG.out.mono ?_
          rintro e w7 ⟨rfl, rfl⟩
          go_wp2_with fail
          refine (rat_any c1 0 (· < w7.heap.size) a1 xs w7 (HAW.out.at 1 rfl)).mono ?_
          rintro e w8 ⟨rfl, rfl⟩
          go_wp2_with fail
          refine (mul_any q w1.heap.size (zat xs 0) (i : Int) w8 h3 h4 HPC.out hx0.1 hx0.2 (by omega) (by omega)).mono ?_
          rintro e w9 ⟨rfl, rfl⟩
          rw [← HSE.out]
          have hss : (sk == sk) = true := by simp
          go_wp2_with fail
          go_ret
          exact ⟨rfl, HEW.out⟩
  · have HPN := hid (plain_no p n s w1 hgood hp1 hp2 hn1 hn2 hs1 hs2)
    clear hgood
    go_wp2_with fail
    refine HPN.out.mono ?_
    rintro e w2 ⟨rfl, hb2⟩
    have HB2 : Hid (Below w.heap.size w w2) := HB1.out.trans (hb2.mono HB1.out.size)
    clear hb2
    go_wp2_with fail
    go_ret
    exact ⟨rfl, HB2.out⟩

end Go.Proofs.Ytidkhgplejglaac
