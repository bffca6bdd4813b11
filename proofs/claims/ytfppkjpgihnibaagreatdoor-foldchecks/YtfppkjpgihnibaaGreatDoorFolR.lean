/- attestref2: Pair, Fold. -/
import Derived.Test.YtfppkjpgihnibaaGreatDoorCods
import Derived.Test.YtfppkjpgihnibaaGreatDoorRefPt
import Derived.Test.YtfppkjpgihnibaaGreatDoorDoms
import Derived.Test.YtfppkjpgihnibaaGreatDoorRefs
import Derived.Test.YtfppkjpgihnibaaGreatDoorTres
import Derived.Deep.RegionHeld3
namespace Go.Proofs.YtfppkjpgihnibaaGreatDoor
open Go.RowKit Pol

set_option maxRecDepth 100000 in
set_option maxHeartbeats 1000000 in
theorem rpair_any (q i : Nat) (n r s a b c : Int) (w : World) (h3 : 3 ≤ q) (h4 : q ≤ 2147483647) (hi : i ≤ 9223372036854775807) (hr0 : 0 ≤ r) (hr1 : r < q) (hs0 : 0 ≤ s) (hs1 : s < q) (ha : -9223372036854775808 ≤ a) (ha2 : a ≤ 9223372036854775807) (hb : -9223372036854775808 ≤ b) (hb2 : b ≤ 9223372036854775807) (hc : -9223372036854775808 ≤ c) (hc2 : c ≤ 9223372036854775807) :
    Calls Tryz.prog 103 #[.agg #[.int .i64 q, .int .i64 n, .int .i64 s, .int .i64 r], .int .i64 (i : Int), .int .i64 a, .int .i64 b, .int .i64 c] w fun e w' => e = .returned (.int .i64 (Fol.pairz q (Dom.pt q s r i) a b c)) ∧ Below w.heap.size w w' := by
  have HPT := hid (fun W => rpoint_any q i n r s W h3 h4 hi hr0 hr1 hs0 hs1)
  have hpb : 0 ≤ Dom.pt q s r i ∧ Dom.pt q s r i < (q : Int) := emod_bounds _ q h3
  obtain ⟨X, hX⟩ : ∃ X, X = Dom.pt q s r i := ⟨_, rfl⟩
  rw [← hX] at HPT hpb ⊢
  obtain ⟨p1, p2⟩ := hpb
  have HA := hid (fun W => radd_any q a b W h3 h4 ha ha2 hb hb2)
  obtain ⟨a1, a2⟩ := emod_bounds (a + b) q h3
  have HAD := hid (emod_dvd q (a + b))
  generalize (a + b) % (q : Int) = A at *
  have HDV := hid (fun W => rdiv_any q A 2 W h3 h4 (by omega) (by omega) (by omega) (by omega))
  obtain ⟨e1, e2⟩ := emod_bounds (A * (invn q 2 : Int)) q h3
  have HED := hid (emod_dvd q (A * (invn q 2 : Int)))
  generalize A * (invn q 2 : Int) % (q : Int) = E at *
  have HS := hid (fun W => rsub_any q a b W h3 h4 ha ha2 hb hb2)
  obtain ⟨s1, s2⟩ := emod_bounds (a - b) q h3
  have HSD := hid (emod_dvd q (a - b))
  generalize (a - b) % (q : Int) = S at *
  have HX2 := hid (fun W => rmul_any q X 2 W h3 h4 (by omega) (by omega) (by omega) (by omega))
  obtain ⟨x1, x2⟩ := emod_bounds (X * 2) q h3
  obtain ⟨Y, hY⟩ : ∃ Y, Y = X * 2 % (q : Int) := ⟨_, rfl⟩
  rw [← hY] at HX2 x1 x2
  have HO := hid (fun W => rdiv_any q S Y W h3 h4 (by omega) (by omega) (by omega) (by omega))
  obtain ⟨o1, o2⟩ := emod_bounds (S * (invn q Y : Int)) q h3
  have HOD := hid (emod_dvd q (S * (invn q Y : Int)))
  generalize S * (invn q Y : Int) % (q : Int) = O at *
  have HC := hid (fun W => rmul_any q O c W h3 h4 (by omega) (by omega) hc hc2)
  obtain ⟨c1, c2⟩ := emod_bounds (O * c) q h3
  have HCD := hid (emod_dvd q (O * c))
  generalize O * c % (q : Int) = C at *
  have HF := hid (fun W => radd_any q E C W h3 h4 (by omega) (by omega) (by omega) (by omega))
  have HE : Hid ((E + C) % (q : Int) = Fol.pairz q X a b c) := by
    unfold Hid Fol.pairz
    rw [← hY, emod_eq_iff (by omega)]
    refine Fol.dvda (Fol.dvdt HED.out (Fol.dvdm HAD.out (Fol.dvd0 q _))) (Fol.dvdt HCD.out (Fol.dvdm (Fol.dvdt HOD.out (Fol.dvdm HSD.out (Fol.dvd0 q _))) (Fol.dvd0 q _)))
  rw [HE.out] at HF
  generalize Fol.pairz q X a b c = Z at *
  have HB0 : Hid (Below w.heap.size w (w.alloc (.cells #[.int .i64 q, .int .i64 n, .int .i64 s, .int .i64 r] 26))) := (Below.refl _ _).alloc (Nat.le_refl _) _
  have HQ0 : Hid ((w.alloc (.cells #[.int .i64 q, .int .i64 n, .int .i64 s, .int .i64 r] 26)).heap[w.heap.size]? = some (.cells #[.int .i64 q, .int .i64 n, .int .i64 s, .int .i64 r] 26 (0, 0))) := heap_alloc_new w _
  clear hX hY HE HAD HED HSD HOD HCD
  go_enter Tryz.func103, Tryz.ntmps103
  go_wp2_with fail
  refine (HPT.out _).mono ?_
  rintro e w1 ⟨rfl, hb1⟩
  have HB1 : Hid (Below w.heap.size w w1) := HB0.out.trans (hb1.mono HB0.out.size)
  have d0 := four0 ((hb1.block _ (by simp)).trans HQ0.out)
  clear hb1 HPT HB0 HQ0
  go_wp2_with fail
  refine (HA.out _).mono ?_
  rintro e w2 ⟨rfl, rfl⟩
  go_wp2_with fail
  refine (HDV.out _).mono ?_
  rintro e w2 ⟨rfl, rfl⟩
  go_wp2_with fail
  refine (HS.out _).mono ?_
  rintro e w2 ⟨rfl, rfl⟩
  go_wp2_with fail
  refine (HX2.out _).mono ?_
  rintro e w2 ⟨rfl, rfl⟩
  go_wp2_with fail
  refine (HO.out _).mono ?_
  rintro e w2 ⟨rfl, rfl⟩
  go_wp2_with fail
  refine (HC.out _).mono ?_
  rintro e w2 ⟨rfl, rfl⟩
  go_wp2_with fail
  refine (HF.out _).mono ?_
  rintro e w2 ⟨rfl, rfl⟩
  go_wp2_with fail
  go_ret
  exact ⟨rfl, HB1.out⟩

end Go.Proofs.YtfppkjpgihnibaaGreatDoor
