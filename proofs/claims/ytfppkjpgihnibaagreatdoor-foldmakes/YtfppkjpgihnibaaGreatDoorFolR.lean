/- attestref2: Pair, Fold. -/
import Derived.Test.YtfppkjpgihnibaaGreatDoorCods
import Derived.Test.YtfppkjpgihnibaaGreatDoorRefPt
import Derived.Test.YtfppkjpgihnibaaGreatDoorDoms
import Derived.Test.YtfppkjpgihnibaaGreatDoorRefs
import Derived.Test.YtfppkjpgihnibaaGreatDoorTres
import Derived.Deep.RegionHeld3
namespace Go.Proofs.YtfppkjpgihnibaaGreatDoor
open Go.RowKit Pol

set_option maxRecDepth 100000 in
set_option maxHeartbeats 1000000 in
theorem rpair_any (q i : Nat) (n r s a b c : Int) (w : World) (h3 : 3 ≤ q) (h4 : q ≤ 2147483647) (hi : i ≤ 9223372036854775807) (hr0 : 0 ≤ r) (hr1 : r < q) (hs0 : 0 ≤ s) (hs1 : s < q) (ha : -9223372036854775808 ≤ a) (ha2 : a ≤ 9223372036854775807) (hb : -9223372036854775808 ≤ b) (hb2 : b ≤ 9223372036854775807) (hc : -9223372036854775808 ≤ c) (hc2 : c ≤ 9223372036854775807) :
    Calls Tryz.prog 103 #[.agg #[.int .i64 q, .int .i64 n, .int .i64 s, .int .i64 r], .int .i64 (i : Int), .int .i64 a, .int .i64 b, .int .i64 c] w fun e w' => e = .returned (.int .i64 (Fol.pairz q (Dom.pt q s r i) a b c)) ∧ Below w.heap.size w w' := by
  have HPT := hid (fun W => rpoint_any q i n r s W h3 h4 hi hr0 hr1 hs0 hs1)
  have hpb : 0 ≤ Dom.pt q s r i ∧ Dom.pt q s r i < (q : Int) := emod_bounds _ q h3
  obtain ⟨X, hX⟩ : ∃ X, X = Dom.pt q s r i := ⟨_, rfl⟩
  rw [← hX] at HPT hpb ⊢
  obtain ⟨p1, p2⟩ := hpb
  have HA := hid (fun W => radd_any q a b W h3 h4 ha ha2 hb hb2)
  obtain ⟨a1, a2⟩ := emod_bounds (a + b) q h3
  have HAD := hid (emod_dvd q (a + b))
  generalize (a + b) % (q : Int) = A at *
  have HDV := hid (fun W => rdiv_any q A 2 W h3 h4 (by omega) (by omega) (by omega) (by omega))
  obtain ⟨e1, e2⟩ := emod_bounds (A * (invn q 2 : Int)) q h3
  have HED := hid (emod_dvd q (A * (invn q 2 : Int)))
  generalize A * (invn q 2 : Int) % (q : Int) = E at *
  have HS := hid (fun W => rsub_any q a b W h3 h4 ha ha2 hb hb2)
  obtain ⟨s1, s2⟩ := emod_bounds (a - b) q h3
  have HSD := hid (emod_dvd q (a - b))
  generalize (a - b) % (q : Int) = S at *
  have HX2 := hid (fun W => rmul_any q X 2 W h3 h4 (by omega) (by omega) (by omega) (by omega))
  obtain ⟨x1, x2⟩ := emod_bounds (X * 2) q h3
  obtain ⟨Y, hY⟩ : ∃ Y, Y = X * 2 % (q : Int) := ⟨_, rfl⟩
  rw [← hY] at HX2 x1 x2
  have HO := hid (fun W => rdiv_any q S Y W h3 h4 (by omega) (by omega) (by omega) (by omega))
  obtain ⟨o1, o2⟩ := emod_bounds (S * (invn q Y : Int)) q h3
  have HOD := hid (emod_dvd q (S * (invn q Y : Int)))
  generalize S * (invn q Y : Int) % (q : Int) = O at *
  have HC := hid (fun W => rmul_any q O c W h3 h4 (by omega) (by omega) hc hc2)
  obtain ⟨c1, c2⟩ := emod_bounds (O * c) q h3
  have HCD := hid (emod_dvd q (O * c))
  generalize O * c % (q : Int) = C at *
  have HF := hid (fun W => radd_any q E C W h3 h4 (by omega) (by omega) (by omega) (by omega))
  have HE : Hid ((E + C) % (q : Int) = Fol.pairz q X a b c) := by
    unfold Hid Fol.pairz
    rw [← hY, emod_eq_iff (by omega)]
    refine Fol.dvda (Fol.dvdt HED.out (Fol.dvdm HAD.out (Fol.dvd0 q _))) (Fol.dvdt HCD.out (Fol.dvdm (Fol.dvdt HOD.out (Fol.dvdm HSD.out (Fol.dvd0 q _))) (Fol.dvd0 q _)))
  rw [HE.out] at HF
  generalize Fol.pairz q X a b c = Z at *
  have HB0 : Hid (Below w.heap.size w (w.alloc (.cells #[.int .i64 q, .int .i64 n, .int .i64 s, .int .i64 r] 26))) := (Below.refl _ _).alloc (Nat.le_refl _) _
  have HQ0 : Hid ((w.alloc (.cells #[.int .i64 q, .int .i64 n, .int .i64 s, .int .i64 r] 26)).heap[w.heap.size]? = some (.cells #[.int .i64 q, .int .i64 n, .int .i64 s, .int .i64 r] 26 (0, 0))) := heap_alloc_new w _
  clear hX hY HE HAD HED HSD HOD HCD
  go_enter Tryz.func103, Tryz.ntmps103
  go_wp2_with fail
  refine (HPT.out _).mono ?_
  rintro e w1 ⟨rfl, hb1⟩
  have HB1 : Hid (Below w.heap.size w w1) := HB0.out.trans (hb1.mono HB0.out.size)
  have d0 := four0 ((hb1.block _ (by simp)).trans HQ0.out)
  clear hb1 HPT HB0 HQ0
  go_wp2_with fail
  refine (HA.out _).mono ?_
  rintro e w2 ⟨rfl, rfl⟩
  go_wp2_with fail
  refine (HDV.out _).mono ?_
  rintro e w2 ⟨rfl, rfl⟩
  go_wp2_with fail
  refine (HS.out _).mono ?_
  rintro e w2 ⟨rfl, rfl⟩
  go_wp2_with fail
  refine (HX2.out _).mono ?_
  rintro e w2 ⟨rfl, rfl⟩
  go_wp2_with fail
  refine (HO.out _).mono ?_
  rintro e w2 ⟨rfl, rfl⟩
  go_wp2_with fail
  refine (HC.out _).mono ?_
  rintro e w2 ⟨rfl, rfl⟩
  go_wp2_with fail
  refine (HF.out _).mono ?_
  rintro e w2 ⟨rfl, rfl⟩
  go_wp2_with fail
  go_ret
  exact ⟨rfl, HB1.out⟩

set_option maxRecDepth 100000 in
set_option maxHeartbeats 2000000 in
theorem rfold_any (q m cap : Nat) (a : Option Addr) (r s c : Int) (word : List Int) (w : World) (n0 : Nat) (h3 : 3 ≤ q) (h4 : q ≤ 2147483647) (hm : m ≤ 65536) (hr0 : 0 ≤ r) (hr1 : r < q) (hs0 : 0 ≤ s) (hs1 : s < q) (hlen : word.length = 2 * m) (hf : Fits word) (hc : -9223372036854775808 ≤ c) (hc2 : c ≤ 9223372036854775807) (hn0 : n0 ≤ w.heap.size) (hrow : RowB n0 w a word) :
    Calls Tryz.prog 47 #[.agg #[.int .i64 q, .int .i64 ((2 * m : Nat) : Int), .int .i64 s, .int .i64 r], .slice a word.length cap, .int .i64 c] w fun e w' => ∃ v, e = .returned v ∧ w'.ownsRow w.heap.size 3 1 v (Fol.foldz q m r s word c).length ((Fol.foldz q m r s word c).map (Value.int .i64)) ∧ Below w.heap.size w w' := by
  obtain ⟨i0, hi, hz0, hz1, hz2⟩ := info_parts Tryz.infoInt
  have HR := hid hrow
  have HFW := hid hf
  have HLN := hid hlen
  obtain ⟨N, hN⟩ : ∃ N, N = 2 * m := ⟨_, rfl⟩
  rw [hlen, ← hN]
  have HNN := hid hN
  have q0 : (N : Int) / 2 = (m : Int) := by omega
  have q1 : (N : Int).tdiv 2 = (m : Int) := by rw [hN]; rw [Int.tdiv_eq_ediv_of_nonneg (by omega)]; omega
  have q2 : IntKind.i64.wrap (m : Int) = (m : Int) := by rw [IntKind.wrap_i64]; omega
  obtain ⟨G, hG⟩ : ∃ G : Nat → Int, G = fun i => Fol.pairz q (Dom.pt q s r i) (zat word i) (zat word (i + m)) c := ⟨_, rfl⟩
  have HG := hid hG
  have HE0 : Hid (Fol.foldz q m r s word c = ls G m) := by unfold Hid Fol.foldz; rw [hG]
  have HB0 : Hid (Below w.heap.size w (w.alloc (.cells #[.int .i64 q, .int .i64 (N : Int), .int .i64 s, .int .i64 r] 26))) := (Below.refl _ _).alloc (Nat.le_refl _) _
  have HQ0 : Hid ((w.alloc (.cells #[.int .i64 q, .int .i64 (N : Int), .int .i64 s, .int .i64 r] 26)).heap[w.heap.size]? = some (.cells #[.int .i64 q, .int .i64 (N : Int), .int .i64 s, .int .i64 r] 26 (0, 0))) := heap_alloc_new w _
  have hsz : w.heap.size < (w.alloc (.cells #[.int .i64 q, .int .i64 (N : Int), .int .i64 s, .int .i64 r] 26)).heap.size := by simp
  clear hrow hf hlen hN hG
  go_enter Tryz.func47, Tryz.ntmps47
  go_wp2_with fail
  generalize w.alloc (.cells #[.int .i64 q, .int .i64 (N : Int), .int .i64 s, .int .i64 r] 26) = W0 at *
  go_loopw [7, 8] (fun v iv wr => ∃ k : Nat, k ≤ m ∧ iv = .int .i64 k ∧ Hid (wr.ownsRow W0.heap.size 3 1 v (ls G k).length ((ls G k).map (Value.int .i64)) ∧ Below W0.heap.size W0 wr)) (fun _ iv _ => m - (intOf iv).toNat)
  case atStart => exact ⟨0, by omega, rfl, World.ownsRow_nil _ _ _ _, Below.refl _ _⟩
  case round =>
    obtain ⟨k, hk, rfl, hI⟩ := hrel
    have hq := (hI.out.2.block _ hsz).trans HQ0.out
    have d0 := four0 hq
    have d1 := four1 hq
    have d2 := four2 hq
    have d3 := four3 hq
    by_cases hlt : k < m
    · have hlt2 : (k : Int) < (m : Int) := by omega
      have hks : IntKind.i64.wrap ((k : Int) + 1) = (k : Int) + 1 := by rw [IntKind.wrap_i64]; omega
      obtain ⟨b, o, hae, hb, hx⟩ := HR.out k (by rw [HLN.out]; omega)
      obtain ⟨_, _, e1, _, hy⟩ := HR.out (k + m) (by rw [HLN.out]; omega)
      subst hae
      cases e1
      have hbw := HB0.out.trans (hI.out.2.mono HB0.out.size)
      have x1 := (hbw.cell (p := ⟨b, o + k, none⟩) (show b < w.heap.size by omega)).trans hx
      have x2 := (hbw.cell (p := ⟨b, o + (k + m), none⟩) (show b < w.heap.size by omega)).trans hy
      obtain ⟨f1, f2⟩ := HFW.out.all k
      obtain ⟨f3, f4⟩ := HFW.out.all (k + m)
      obtain ⟨x, hx0⟩ : ∃ x, x = zat word k := ⟨_, rfl⟩
      obtain ⟨y, hy0⟩ : ∃ y, y = zat word (k + m) := ⟨_, rfl⟩
      rw [← hx0] at x1 f1 f2
      rw [← hy0] at x2 f3 f4
      have k1 : IntKind.i64.wrap ((k : Int) + (m : Int)) = ((k + m : Nat) : Int) := by rw [IntKind.wrap_i64]; omega
      have k2 : ((k + m : Nat) : Int) < (N : Int) := by have := HNN.out; omega
      have k3 : (k : Int) < (N : Int) := by have := HNN.out; omega
      obtain ⟨km, hkm⟩ : ∃ km, km = k + m := ⟨_, rfl⟩
      rw [← hkm] at x2 k1 k2
      have HGk : Hid (G k = Fol.pairz q (Dom.pt q s r k) x y c) := by unfold Hid; rw [HG.out, hx0, hy0]
      obtain ⟨z, hz⟩ : ∃ z, z = G k := ⟨_, rfl⟩
      have HPR : Hid (∀ W, Below wr.heap.size wr W → Calls Tryz.prog 103 #[.agg #[.int .i64 q, .int .i64 (N : Int), .int .i64 s, .int .i64 r], .int .i64 (k : Int), .int .i64 x, .int .i64 y, .int .i64 c] W fun e w' => e = .returned (.int .i64 z) ∧ Below wr.heap.size wr w') := fun W h => by
        refine (rpair_any q k (N : Int) r s x y c W h3 h4 (by omega) hr0 hr1 hs0 hs1 f1 f2 f3 f4 hc hc2).mono ?_
        rintro e w' ⟨rfl, h2⟩
        rw [← HGk.out, ← hz]
        exact ⟨rfl, h.trans (h2.mono h.size)⟩
      have HKe : Hid (∀ W, Below wr.heap.size wr W → W.cell? ⟨w.heap.size, 0, none⟩ = some (.int .i64 (q : Int)) ∧ W.cell? ⟨w.heap.size, 1, none⟩ = some (.int .i64 (N : Int)) ∧ W.cell? ⟨w.heap.size, 2, none⟩ = some (.int .i64 s) ∧ W.cell? ⟨w.heap.size, 3, none⟩ = some (.int .i64 r) ∧ W.cell? ⟨b, o + k, none⟩ = some (.int .i64 x) ∧ W.cell? ⟨b, o + km, none⟩ = some (.int .i64 y)) := fun W h => by
        have hb2 := h.block w.heap.size (Array.getElem?_eq_some_iff.1 hq).1
        have hq2 := hb2.trans hq
        exact ⟨four0 hq2, four1 hq2, four2 hq2, four3 hq2, (h.cell (p := ⟨b, o + k, none⟩) (World.block_lt_of_cell? _ _ x1)).trans x1, (h.cell (p := ⟨b, o + km, none⟩) (World.block_lt_of_cell? _ _ x2)).trans x2⟩
      have hdd : Below wr.heap.size wr wr.drew := (Below.refl _ _).drew
      have hown := hI.out.1
      have HOW := hid hown
      have HBI := hid hI.out.2
      have HLS := hid (ls_len G k)
      have HSC : Hid (ls G (k + 1) = ls G k ++ [z]) := by unfold Hid; rw [ls_succ, hz]
      generalize ls G k = Z at *
      have HZL : Hid (Z.length ≤ 65536) := by unfold Hid; rw [HLS.out]; omega
      clear hI hq hx hy hx0 hy0 hkm hz HGk hown hbw
      go_wp2_with fail
      go_region_held3 (fun W => W.cell? ⟨w.heap.size, 0, none⟩ = some (.int .i64 (q : Int)) ∧ W.cell? ⟨w.heap.size, 1, none⟩ = some (.int .i64 (N : Int)) ∧ W.cell? ⟨w.heap.size, 2, none⟩ = some (.int .i64 s) ∧ W.cell? ⟨w.heap.size, 3, none⟩ = some (.int .i64 r) ∧ W.cell? ⟨b, o + k, none⟩ = some (.int .i64 x) ∧ W.cell? ⟨b, o + km, none⟩ = some (.int .i64 y)) (exact HKe.out _ (by assumption))
        (first
          | (go_at_call 103; refine (HPR.out _ (by assumption)).mono ?_; rintro e w' ⟨rfl, hb'⟩))
      have hown := HOW.out.kept (gb_of_below hb') (by cases Value.ownBlock _ with
        | none => exact .inl rfl
        | some k => exact .inr (by simp))
      have hbel : Below W0.heap.size W0 w' := HBI.out.trans (hb'.mono HBI.out.size)
      have hs' := hbel.size
      have hZ := HZL.out
      clear hb' hdd HKe HPR d0 d1 d2 d3 x1 x2 HOW HBI
      go_wp2_with (at_builtin; refine wpList_append_own _ rfl _ _ 22 rfl W0.heap.size 3 i0 (.int .i64 0) 1 8 Tryz.underlying22 hi hz0 hz1 hz2 rfl (by decide) _ _ _ rfl (hown.alloc _) ⟨w'.heap.size, 0, none⟩ 1 1 [.int .i64 z] rfl rfl ?c1 ?c2 ?c3 ?c4 ?c5 ?_)
      case c1 =>
        intro j u hj
        match j, hj with
        | 0, hj => simp at hj; subst hj; simp [Addr.add]
      case c2 => intro u hu; simp at hu; subst hu; rfl
      case c3 => unfold maxLen; omega
      case c4 => omega
      case c5 => simp; omega
      intro v' w5 hown2 hgrow _
      have hown3 := owns_succ hown2
      have HE : Hid (w5.ownsRow W0.heap.size 3 1 v' (ls G (k + 1)).length ((ls G (k + 1)).map (Value.int .i64)) ∧ Below W0.heap.size W0 w5) := by
        unfold Hid
        rw [HSC.out]
        exact ⟨hown3, (hbel.alloc hs' _).grown hgrow (by simp; omega) (fun j hj => (hown.lt j hj).1)⟩
      clear hown2 hown3 hgrow hown hbel
      go_wp2_with fail
      go_roundw
      case rel => exact ⟨k + 1, by omega, by go_num, HE⟩
      case measure => simp [intOf]; omega
    · obtain rfl : k = m := by omega
      have hlt2 : ¬ (k : Int) < (k : Int) := by omega
      have HEE : Hid (wr.ownsRow w.heap.size 3 1 _ (ls G k).length ((ls G k).map (Value.int .i64)) ∧ Below w.heap.size w wr) := ⟨World.ownsRow.mono hI.out.1 HB0.out.size, HB0.out.trans (hI.out.2.mono HB0.out.size)⟩
      clear hI hq
      go_wp2_with fail
      go_ret
      exact ⟨_, rfl, by rw [HE0.out]; exact HEE.out.1, HEE.out.2⟩

end Go.Proofs.YtfppkjpgihnibaaGreatDoor
