/- The reference of package gates: Wire. -/
import Derived.Test.YtaapbopcfpihbaaDoorGtJ
import Derived.Test.YtaapbopcfpihbaaDoorPgS
namespace Go.Proofs.YtaapbopcfpihbaaDoor
open Go.RowKit

theorem wrt_two {p : Nat} {gs : List GatZ} {kind : Int} {z x y : List Int} {i : Nat} (hk : (gat gs i).kind = kind) : (Dom.sm (wrt gs kind z x y) i % (p : Int) + Sum.wgt (zat z) z.length i % (p : Int) * (Sum.wgt (zat x) x.length (gat gs i).a.toNat % (p : Int)) % (p : Int) * (Sum.wgt (zat y) y.length (gat gs i).b.toNat % (p : Int)) % (p : Int)) % (p : Int) = Dom.sm (wrt gs kind z x y) (i + 1) % (p : Int) := by
  refine emod_of_dvd ?_
  rw [Dom.sm]
  refine Sum.dvd_add_sub (Pol.emod_dvd p _) ?_
  rw [show wrt gs kind z x y i = Sum.wgt (zat z) z.length i * Sum.wgt (zat x) x.length (gat gs i).a.toNat * Sum.wgt (zat y) y.length (gat gs i).b.toNat from if_pos hk]
  generalize Sum.wgt (zat z) z.length i = u1
  generalize Sum.wgt (zat x) x.length (gat gs i).a.toNat = u2
  generalize Sum.wgt (zat y) y.length (gat gs i).b.toNat = u3
  have h12 := Sum.dvd_mul_sub (Pol.emod_dvd p u1) (Pol.emod_dvd p u2)
  have h0 := Int.dvd_add (Pol.emod_dvd p (u1 % (p : Int) * (u2 % (p : Int)))) h12
  generalize u1 % (p : Int) * (u2 % (p : Int)) = A at *
  generalize u1 * u2 = B at *
  rw [show A % (p : Int) - A + (A - B) = A % (p : Int) - B from by generalize A % (p : Int) = C; omega] at h0
  have h := Sum.dvd_mul_sub h0 (Pol.emod_dvd p u3)
  have h2 := Int.dvd_add (Pol.emod_dvd p (A % (p : Int) * (u3 % (p : Int)))) h
  generalize A % (p : Int) * (u3 % (p : Int)) = C at *
  generalize B * u3 = D at *
  rwa [show C % (p : Int) - C + (C - D) = C % (p : Int) - D from by generalize C % (p : Int) = E; omega] at h2

set_option maxRecDepth 100000 in
set_option maxHeartbeats 4000000 in
theorem rwire13_any (p cg cz cx cy : Nat) (kind : Int) (ag az ax ay : Option Addr) (gs : List GatZ) (z x y : List Int) (w : World) (h3 : 3 ≤ p) (hm : p ≤ 2147483647) (hn : gs.length ≤ 64) (hg : LstG w.heap.size w ag cg gs) (hz1 : z.length ≤ 6) (hx1 : x.length ≤ 6) (hy1 : y.length ≤ 6) (hgz : gs.length ≤ 2 ^ z.length) (ho : ∀ k, k < gs.length → (0 ≤ (gat gs k).a ∧ (gat gs k).a < ((2 ^ x.length : Nat) : Int)) ∧ (0 ≤ (gat gs k).b ∧ (gat gs k).b < ((2 ^ y.length : Nat) : Int))) (fz : Fits z) (fx : Fits x) (fy : Fits y) (rz : RowB w.heap.size w az z) (rx : RowB w.heap.size w ax x) (ry : RowB w.heap.size w ay y) :
    Calls Tryd.prog 15 #[.int .i64 (p : Int), .slice ag gs.length cg, .int .i64 kind, .slice az z.length cz, .slice ax x.length cx, .slice ay y.length cy] w fun e w' => e = .returned (.int .i64 (wrz p gs kind z x y)) ∧ Below w.heap.size w w' := by
  obtain ⟨n, hnn⟩ : ∃ n, n = gs.length := ⟨_, rfl⟩
  have HN := hid hnn
  obtain ⟨F, hF⟩ : ∃ F : Nat → Int, F = fun k => Dom.sm (wrt gs kind z x y) k % (p : Int) := ⟨_, rfl⟩
  have HFB : Hid (∀ k, 0 ≤ F k ∧ F k < p) := fun k => by rw [hF]; exact emod_bounds _ p h3
  have HF0 : Hid (F 0 = 0) := by unfold Hid; rw [hF]; rfl
  have HFS : Hid (∀ k, ¬ (gat gs k).kind = kind → F (k + 1) = F k) := fun k h => by rw [hF]; exact wrt_skip h
  have HFA : Hid (∀ k, (gat gs k).kind = kind → (F k + Sum.wgt (zat z) z.length k % (p : Int) * (Sum.wgt (zat x) x.length (gat gs k).a.toNat % (p : Int)) % (p : Int) * (Sum.wgt (zat y) y.length (gat gs k).b.toNat % (p : Int)) % (p : Int)) % (p : Int) = F (k + 1)) := fun k h => by rw [hF]; exact wrt_two h
  rw [show wrz p gs kind z x y = F n from by rw [hF, hnn]; rfl]
  rw [← hnn] at hn hgz ⊢
  have HGS := hid hg
  have HOK := hid ho
  have HWZ0 : Hid (∀ (W : World) (i : Nat), Below w.heap.size w W → i < 2 ^ z.length → Calls Tryd.prog 32 #[.int .i64 (p : Int), .int .i64 (i : Int), .slice az z.length cz] W fun e w' => e = .returned (.int .i64 (Sum.wgt (zat z) z.length i % (p : Int))) ∧ Below W.heap.size W w') := fun W i hW hi => runit_any p i cz az z W h3 hm (by omega) hi fz ((rz.below hW).mono hW.size)
  have HWX0 : Hid (∀ (W : World) (i : Nat), Below w.heap.size w W → i < 2 ^ x.length → Calls Tryd.prog 32 #[.int .i64 (p : Int), .int .i64 (i : Int), .slice ax x.length cx] W fun e w' => e = .returned (.int .i64 (Sum.wgt (zat x) x.length i % (p : Int))) ∧ Below W.heap.size W w') := fun W i hW hi => runit_any p i cx ax x W h3 hm (by omega) hi fx ((rx.below hW).mono hW.size)
  have HWY0 : Hid (∀ (W : World) (i : Nat), Below w.heap.size w W → i < 2 ^ y.length → Calls Tryd.prog 32 #[.int .i64 (p : Int), .int .i64 (i : Int), .slice ay y.length cy] W fun e w' => e = .returned (.int .i64 (Sum.wgt (zat y) y.length i % (p : Int))) ∧ Below W.heap.size W w') := fun W i hW hi => runit_any p i cy ay y W h3 hm (by omega) hi fy ((ry.below hW).mono hW.size)
  obtain ⟨Uz, hUz⟩ : ∃ U : Nat → Int, U = fun i => Sum.wgt (zat z) z.length i % (p : Int) := ⟨_, rfl⟩
  obtain ⟨Ux, hUx⟩ : ∃ U : Nat → Int, U = fun i => Sum.wgt (zat x) x.length i % (p : Int) := ⟨_, rfl⟩
  obtain ⟨Uy, hUy⟩ : ∃ U : Nat → Int, U = fun i => Sum.wgt (zat y) y.length i % (p : Int) := ⟨_, rfl⟩
  have HUB : Hid (∀ i, (0 ≤ Uz i ∧ Uz i < p) ∧ (0 ≤ Ux i ∧ Ux i < p) ∧ (0 ≤ Uy i ∧ Uy i < p)) := fun i => by rw [hUz, hUx, hUy]; exact ⟨emod_bounds _ p h3, emod_bounds _ p h3, emod_bounds _ p h3⟩
  simp only [show ∀ i, Sum.wgt (zat z) z.length i % (p : Int) = Uz i from fun i => by rw [hUz], show ∀ i, Sum.wgt (zat x) x.length i % (p : Int) = Ux i from fun i => by rw [hUx], show ∀ i, Sum.wgt (zat y) y.length i % (p : Int) = Uy i from fun i => by rw [hUy]] at HFA HWZ0 HWX0 HWY0
  generalize z.length = nz at *
  generalize x.length = nx at *
  generalize y.length = ny at *
  generalize 2 ^ nz = Nz at *
  generalize 2 ^ nx = Nx at *
  generalize 2 ^ ny = Ny at *
  clear hg ho hnn hF fz fx fy rz rx ry hUz hUx hUy hz1 hx1 hy1
  go_enter Tryd.func15, Tryd.ntmps15
  go_wp2_with fail
  go_loopw [13, 14, 15, 16, 17] (fun sv iv _ _ _ wr => ∃ k : Nat, k ≤ n ∧ iv = .int .i64 (k : Int) ∧ (∃ s : Int, sv = .int .i64 s ∧ Hid (s = F k)) ∧ Hid (Below w.heap.size w wr)) (fun _ iv _ _ _ _ => n - (intOf iv).toNat)
  case atStart => exact ⟨0, by omega, rfl, ⟨0, rfl, HF0.out.symm⟩, Below.refl _ _⟩
  case round =>
    obtain ⟨k, hk, rfl, ⟨s0, rfl, hs⟩, hI⟩ := hrel
    by_cases hlt : k < n
    · have hlt2 : (k : Int) < (n : Int) := by omega
      have hks : IntKind.i64.wrap ((k : Int) + 1) = (k : Int) + 1 := by rw [IntKind.wrap_i64]; omega
      have HGB : Hid (∀ W, Below w.heap.size w W → ∃ b1 o1, ag = some ⟨b1, o1, none⟩ ∧ W.cell? ⟨b1, o1 + k * 3, none⟩ = some (.int .i64 (gat gs k).kind) ∧ W.cell? ⟨b1, o1 + k * 3 + 1, none⟩ = some (.int .i64 (gat gs k).a) ∧ W.cell? ⟨b1, o1 + k * 3 + 2, none⟩ = some (.int .i64 (gat gs k).b)) := fun W hW => by
        obtain ⟨b1, o1, h1, _, h2⟩ := (HGS.out.below hW).row k (by rw [← HN.out]; exact hlt)
        exact ⟨b1, o1, h1, h2⟩
      obtain ⟨⟨ha0, ha1⟩, hb0', hb1'⟩ := HOK.out k (by rw [← HN.out]; exact hlt)
      have HFE := hid (HFA.out k)
      have HFN := hid (HFS.out k)
      generalize gat gs k = g at *
      obtain ⟨gk, ga0, gb0⟩ := g
      simp only at HGB ha0 hb0' ha1 hb1' HFE HFN
      obtain ⟨ga, rfl⟩ : ∃ ga : Nat, ga0 = (ga : Int) := ⟨ga0.toNat, by omega⟩
      obtain ⟨gb, rfl⟩ : ∃ gb : Nat, gb0 = (gb : Int) := ⟨gb0.toNat, by omega⟩
      rw [Int.toNat_natCast, Int.toNat_natCast] at HFE
      obtain ⟨b1, o1, rfl, g0, g1, g2⟩ := HGB.out wr hI.out
      have HGC : Hid (∀ W, Below w.heap.size w W → W.cell? ⟨b1, o1 + k * 3 + 1, none⟩ = some (.int .i64 (ga : Int)) ∧ W.cell? ⟨b1, o1 + k * 3 + 2, none⟩ = some (.int .i64 (gb : Int))) := fun W hW => by
        obtain ⟨b2, o2, e, _, e2, e3⟩ := HGB.out W hW
        injection e with e
        injection e with e4 e5 _
        subst e4
        subst e5
        exact ⟨e2, e3⟩
      by_cases hkk : gk = kind
      · subst hkk
        have hkb : (gk == gk) = true := beq_self_eq_true _
        obtain ⟨u1, hu1⟩ : ∃ u, u = Uz k := ⟨_, rfl⟩
        obtain ⟨u2, hu2⟩ : ∃ u, u = Ux ga := ⟨_, rfl⟩
        obtain ⟨u3, hu3⟩ : ∃ u, u = Uy gb := ⟨_, rfl⟩
        obtain ⟨q1, q1'⟩ := (HUB.out k).1
        obtain ⟨q2, q2'⟩ := (HUB.out ga).2.1
        obtain ⟨q3, q3'⟩ := (HUB.out gb).2.2
        have HWZ := hid (fun W h => HWZ0.out W k h (by omega))
        have HWX := hid (fun W h => HWX0.out W ga h (by omega))
        have HWY := hid (fun W h => HWY0.out W gb h (by omega))
        have HFE2 := hid (HFE.out rfl)
        rw [← hu1, ← hu2, ← hu3] at HFE2
        rw [← hu1] at HWZ q1 q1'
        rw [← hu2] at HWX q2 q2'
        rw [← hu3] at HWY q3 q3'
        obtain ⟨r1, r2⟩ := emod_bounds (u1 * u2) p h3
        have HM1 := hid (fun W => rmul_any p u1 u2 W h3 hm (by omega) (by omega) (by omega) (by omega))
        have HM2 := hid (fun W => rmul_any p (u1 * u2 % (p : Int)) u3 W h3 hm (by omega) (by omega) (by omega) (by omega))
        generalize u1 * u2 % (p : Int) = v1 at *
        obtain ⟨r3, r4⟩ := emod_bounds (v1 * u3) p h3
        obtain ⟨s1, s2⟩ := HFB.out k
        rw [← hs.out] at s1 s2 HFE2
        have HAD := hid (fun W => radd_any p s0 (v1 * u3 % (p : Int)) W h3 hm (by omega) (by omega) (by omega) (by omega))
        generalize v1 * u3 % (p : Int) = v2 at *
        generalize (s0 + v2) % (p : Int) = E at *
        have HI := hid hI.out
        clear hI hs hu1 hu2 hu3 HFN HFE q1 q1' q2 q2' q3 q3' r1 r2 r3 r4 s1 s2 HGB g1 g2 ha0 ha1 hb0' hb1'
        go_wp2_with fail
        refine (HWZ.out _ HI.out).mono ?_
        rintro e w1 ⟨rfl, hb1⟩
        have HI1 : Hid (Below w.heap.size w w1) := HI.out.trans (hb1.mono HI.out.size)
        obtain ⟨g1, _⟩ := HGC.out w1 HI1.out
        clear hb1 HI g0
        go_wp2_with fail
        refine (HWX.out _ HI1.out).mono ?_
        rintro e w2 ⟨rfl, hb2⟩
        have HI2 : Hid (Below w.heap.size w w2) := HI1.out.trans (hb2.mono HI1.out.size)
        obtain ⟨_, g2⟩ := HGC.out w2 HI2.out
        clear hb2 HI1 g1
        go_wp2_with fail
        refine (HWY.out _ HI2.out).mono ?_
        rintro e w3 ⟨rfl, hb3⟩
        have HI3 : Hid (Below w.heap.size w w3) := HI2.out.trans (hb3.mono HI2.out.size)
        clear hb3 HI2 g2
        go_wp2_with fail
        refine (HM1.out _).mono ?_
        rintro e w4 ⟨rfl, hw⟩
        have hw1 := hw.symm
        subst hw1
        clear hw
        go_wp2_with fail
        refine (HM2.out _).mono ?_
        rintro e w4 ⟨rfl, hw⟩
        have hw1 := hw.symm
        subst hw1
        clear hw
        go_wp2_with fail
        refine (HAD.out _).mono ?_
        rintro e w4 ⟨rfl, hw⟩
        have hw1 := hw.symm
        subst hw1
        clear hw
        go_wp2_with fail
        go_roundw
        case rel => exact ⟨k + 1, by omega, by go_num, ⟨E, rfl, HFE2.out⟩, HI3.out⟩
        case measure => simp [intOf]; omega
      · have hkb : (gk == kind) = false := by rw [beq_eq_false_iff_ne]; exact hkk
        have HE : Hid (s0 = F (k + 1)) := by unfold Hid; rw [HFN.out hkk]; exact hs.out
        have HI := hid hI.out
        clear hI hs HFN HFE hkk HGB HGC
        go_wp2_with fail
        go_roundw
        case rel => exact ⟨k + 1, by omega, by go_num, ⟨s0, rfl, HE.out⟩, HI.out⟩
        case measure => simp [intOf]; omega
    · obtain rfl : k = n := by omega
      have hlt2 : ¬ (k : Int) < (k : Int) := by omega
      have HE := hid hI.out
      clear hI
      go_wp2_with fail
      go_ret
      exact ⟨by rw [← hs.out]; rfl, HE.out⟩

end Go.Proofs.YtaapbopcfpihbaaDoor
