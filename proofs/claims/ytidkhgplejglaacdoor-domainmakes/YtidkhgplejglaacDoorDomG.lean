/- Package domain: Values. -/
import Derived.Test.YtidkhgplejglaacDoorDomF
import Derived.Test.YtidkhgplejglaacDoorPolD
namespace Go.Proofs.YtidkhgplejglaacDoor
open Go.RowKit

theorem evz_pt (p : Nat) (hp : 0 < p) (zs : List Int) (s r : Int) (j : Nat) : Pol.ps (zat zs) (s * r ^ j) zs.length % (p : Int) = evz p zs (Dom.pt p s r j) := by
  unfold evz Dom.pt
  rw [Pol.emod_eq_iff hp]
  exact Dom.ps_point (zat zs) (by have := Int.dvd_neg.2 (Pol.emod_dvd p (s * r ^ j)); rwa [Int.neg_sub] at this) _

set_option maxRecDepth 1000000 in
set_option maxHeartbeats 2000000 in
theorem values_any (p b d k n cap : Nat) (r s : Int) (P : Nat → Prop) (a : Option Addr) (zs : List Int) (w : World) (hpr : Num.Prime p) (h3 : 3 ≤ p) (hm : p ≤ 2147483647) (hp : w.cell? ⟨b, 0, none⟩ = some (.int .i64 p)) (hd : DomAt w d b n r s)
    (hk : k ≤ 16) (hn : n = 2 ^ k) (hr0 : 0 ≤ r) (hr1 : r < p) (hord : Dom.Ord p r n) (hs0 : 0 ≤ s) (hs1 : s < p) (hlen : zs.length ≤ 281474976710656) (hfit : Fits zs) (hrow : RowP P w a zs) (hP : ∀ k, P k → k < w.heap.size) :
    Calls Tryd.prog 18 #[.pointer (some ⟨d, 0, none⟩), .slice a zs.length cap] w fun e w' =>
      e = .returned (.slice (some ⟨w.heap.size, 0, none⟩) n n) ∧ w'.rowIs w.heap.size 3 n (fun j => .int .i64 (evz p zs (Dom.pt p s r j))) ∧ Below w.heap.size w w' ∧ w.heap.size < w'.heap.size := by
  have hbl : b < w.heap.size := by
    rcases Nat.lt_or_ge b w.heap.size with g | g
    · exact g
    · simp [World.cell?, Array.getElem?_eq_none g] at hp
  have hdl := hd.lt
  have hn0 : 0 < n := hn ▸ Nat.pow_pos (by decide)
  have hn1 : n ≤ 65536 := hn ▸ Nat.le_trans (Nat.pow_le_pow_right (by decide) hk) (by decide)
  have HW := hid (wrapped_any p b d n cap r s P a zs w h3 hm hp hd hn0 hn1 hs0 hs1 hlen hfit hrow hP)
  have HSP := hid (hn ▸ spread_all p b hpr h3 hm k hk : SpreadAt p b n)
  have HO := hid hord
  have HD := hid hd
  have HEV : Hid (∀ j, j < n → Dom.ft p (fun t => Dom.wrp (zat zs) s n zs.length t % (p : Int)) r n j = evz p zs (Dom.pt p s r j)) := fun j hj => (Dom.wrp_values (by omega) (zat zs) s hord zs.length hj).trans (evz_pt p (by omega) zs s r j)
  clear hfit hrow hP hord hd hn
  have hmk := fun n h1 h2 w => run_make_row' (P := Tryd.prog) 27 3 (.int .i64 0) 8 Tryd.underlying27 Tryd.infoInt rfl .i64 .i64 n h1 h2 w
  have hmk2 := hmk n (by omega) (by omega)
  clear hmk
  have hmx : Tryd.prog.follows .mixedOrders = true := by kernel_rfl
  go_enter Tryd.func18, Tryd.ntmps18
  go_wp2_with fail
  refine HW.out.mono ?_
  rintro e w1 ⟨rfl, hri, hb1, hs1x⟩
  have HRI := hid hri
  have HB1 := hid hb1
  obtain ⟨c0, c1, c2, c3⟩ := HD.out.below hb1 hdl
  have hpc := (hb1.cell (p := ⟨b, 0, none⟩) hbl).trans hp
  clear hri hb1
  go_wp2_with fail
  have hC0 : w1.drew.cell? ⟨d, 0, none⟩ = some (.pointer (some ⟨b, 0, none⟩)) ∧ w1.drew.cell? ⟨d, 1, none⟩ = some (.int .i64 n) ∧ w1.drew.cell? ⟨d, 2, none⟩ = some (.int .i64 r) := ⟨c0, c1, c2⟩
  refine wp_region_S (C := fun W => W.cell? ⟨d, 0, none⟩ = some (.pointer (some ⟨b, 0, none⟩)) ∧ W.cell? ⟨d, 1, none⟩ = some (.int .i64 n) ∧ W.cell? ⟨d, 2, none⟩ = some (.int .i64 r)) (st := [16]) hmx ?_
  show wpAnyS _ _ _ _ _ _ 17 (Array.replicate 17 false) _ _
  refine wpAnyS_pure (i := 0) (v := .pointer (some ⟨d, 0, none⟩)) rfl (by kernel_rfl) (by kernel_rfl) (by kernel_rfl) (by kernel_rfl) (fun _ _ _ h => h) (Or.inl ⟨by rfl, fun W _ => ?_⟩) (fun _ => hC0) ?_
  · go_simp
  refine wpAnyS_pure (i := 1) (v := .pointer (some ⟨d, 0, none⟩)) rfl (by kernel_rfl) (by kernel_rfl) (by kernel_rfl) (by kernel_rfl) (fun _ _ _ h => h) (Or.inl ⟨by rfl, fun W _ => ?_⟩) (fun _ => hC0) ?_
  · go_simp
  refine wpAnyS_pure (i := 2) (v := .pointer (some ⟨d, 0, none⟩)) rfl (by kernel_rfl) (by kernel_rfl) (by kernel_rfl) (by kernel_rfl) (fun _ _ _ h => h) (Or.inl ⟨by rfl, fun W _ => ?_⟩) (fun _ => hC0) ?_
  · go_simp
  refine wpAnyS_take (i := 3) (v := .agg #[.pointer (some ⟨b, 0, none⟩), .int .i64 n, .int .i64 r]) rfl (by kernel_rfl) (by kernel_rfl) (by kernel_rfl) (by kernel_rfl) (by kernel_rfl) (by kernel_rfl) (fun _ _ _ h => h) (Or.inl ⟨by rfl, fun W hC => ?_⟩) hC0 ?_
  · obtain ⟨g0, g1, g2⟩ := hC
    go_simp
  refine wpAnyS_pure (i := 4) (v := .slice (some ⟨w.heap.size, 0, none⟩) n n) rfl (by kernel_rfl) (by kernel_rfl) (by kernel_rfl) (by kernel_rfl) (fun _ _ _ h => h) (Or.inl ⟨by rfl, fun W _ => ?_⟩) (fun _ => hC0) ?_
  · go_simp
  refine wpAnyS_pure (i := 5) (v := .pointer (some ⟨d, 0, none⟩)) rfl (by kernel_rfl) (by kernel_rfl) (by kernel_rfl) (by kernel_rfl) (fun _ _ _ h => h) (Or.inl ⟨by rfl, fun W _ => ?_⟩) (fun _ => hC0) ?_
  · go_simp
  refine wpAnyS_pure (i := 6) (v := .pointer (some ⟨d, 0, none⟩)) rfl (by kernel_rfl) (by kernel_rfl) (by kernel_rfl) (by kernel_rfl) (fun _ _ _ h => h) (Or.inl ⟨by rfl, fun W _ => ?_⟩) (fun _ => hC0) ?_
  · go_simp
  refine wpAnyS_pure (i := 7) (v := .pointer (some ⟨d, 0, none⟩)) rfl (by kernel_rfl) (by kernel_rfl) (by kernel_rfl) (by kernel_rfl) (fun _ _ _ h => h) (Or.inl ⟨by rfl, fun W _ => ?_⟩) (fun _ => hC0) ?_
  · go_simp
  refine wpAnyS_pure (i := 8) (v := .pointer (some ⟨d, 1, none⟩)) rfl (by kernel_rfl) (by kernel_rfl) (by kernel_rfl) (by kernel_rfl) (fun _ _ _ h => h) (Or.inl ⟨by rfl, fun W _ => ?_⟩) (fun _ => hC0) ?_
  · go_simp
  refine wpAnyS_take (i := 9) (v := .int .i64 n) rfl (by kernel_rfl) (by kernel_rfl) (by kernel_rfl) (by kernel_rfl) (by kernel_rfl) (by kernel_rfl) (fun _ _ _ h => h) (Or.inl ⟨by rfl, fun W hC => ?_⟩) hC0 ?_
  · obtain ⟨g0, g1, g2⟩ := hC
    go_simp
  refine wpAnyS_pure (i := 11) (v := .pointer (some ⟨d, 0, none⟩)) rfl (by kernel_rfl) (by kernel_rfl) (by kernel_rfl) (by kernel_rfl) (fun _ _ _ h => h) (Or.inl ⟨by rfl, fun W _ => ?_⟩) (fun _ => hC0) ?_
  · go_simp
  refine wpAnyS_pure (i := 12) (v := .pointer (some ⟨d, 0, none⟩)) rfl (by kernel_rfl) (by kernel_rfl) (by kernel_rfl) (by kernel_rfl) (fun _ _ _ h => h) (Or.inl ⟨by rfl, fun W _ => ?_⟩) (fun _ => hC0) ?_
  · go_simp
  refine wpAnyS_pure (i := 13) (v := .pointer (some ⟨d, 0, none⟩)) rfl (by kernel_rfl) (by kernel_rfl) (by kernel_rfl) (by kernel_rfl) (fun _ _ _ h => h) (Or.inl ⟨by rfl, fun W _ => ?_⟩) (fun _ => hC0) ?_
  · go_simp
  refine wpAnyS_pure (i := 14) (v := .pointer (some ⟨d, 2, none⟩)) rfl (by kernel_rfl) (by kernel_rfl) (by kernel_rfl) (by kernel_rfl) (fun _ _ _ h => h) (Or.inl ⟨by rfl, fun W _ => ?_⟩) (fun _ => hC0) ?_
  · go_simp
  refine wpAnyS_take (i := 15) (v := .int .i64 r) rfl (by kernel_rfl) (by kernel_rfl) (by kernel_rfl) (by kernel_rfl) (by kernel_rfl) (by kernel_rfl) (fun _ _ _ h => h) (Or.inl ⟨by rfl, fun W hC => ?_⟩) hC0 ?_
  · obtain ⟨g0, g1, g2⟩ := hC
    go_simp
  refine wpAnyS_one (i := 10) (by kernel_rfl) ?_
  refine wpOp_step rfl (fun K' hK' => ?_)
  rw [if_pos (by rfl)]
  go_simp
  have hC1 : Below w1.heap.size w1 (w1.alloc (.cells (madeCells #[.int .i64 0] n) 3)).drew := ((Below.refl _ _).alloc (Nat.le_refl _) _).drew
  have hsW : (w1.alloc (.cells (madeCells #[.int .i64 0] n) 3)).drew.heap.size = w1.heap.size + 1 := by
    show (w1.alloc (.cells (madeCells #[.int .i64 0] n) 3)).heap.size = _
    simp
  have hd1 : d < w1.heap.size := by omega
  refine hK' _ _ ⟨fun _ => ⟨(hC1.cell (p := ⟨d, 0, none⟩) hd1).trans c0, (hC1.cell (p := ⟨d, 1, none⟩) hd1).trans c1, (hC1.cell (p := ⟨d, 2, none⟩) hd1).trans c2⟩, ?_⟩
  clear hK' K'
  refine wpAnyS_one (i := 16) (by kernel_rfl) ?_
  refine wpOp_step rfl (fun K' hK' => ?_)
  rw [if_pos (by rfl)]
  go_simp
  have hmade : (w1.alloc (.cells (madeCells #[.int .i64 0] n) 3)).drew.rowIs (w.heap.size + 1) 3 n (fun _ => .int .i64 0) := by
    rw [← hs1x]; exact (World.rowIs_made w1 _ n _).drew
  have hcall := HSP.out n r r w.heap.size (w.heap.size + 1) 0 0 n n n n _ (fun _ => .int .i64 0) (fun t => Dom.wrp (zat zs) s n zs.length t % (p : Int)) (w1.alloc (.cells (madeCells #[.int .i64 0] n) 3)).drew
    ((hC1.cell (p := ⟨b, 0, none⟩) (show b < w1.heap.size by omega)).trans hpc) (by omega) (by omega) (by omega) (HRI.out.alloc _).drew hmade (by omega) (by omega) (Nat.le_refl _) (Nat.le_refl _) hr0 hr1 HO.out
    (fun j _ => by rw [Nat.zero_add]) (fun j _ => by have := emod_bounds (Dom.wrp (zat zs) s n zs.length j) p h3; omega)
  refine hcall.mono ?_
  rintro e w3 ⟨rfl, hpa, F', G', hF', hG', hv, _, _⟩
  refine hK' _ _ ⟨fun h => absurd (h 16 (by simp)) (by decide), ?_⟩
  clear hK' K'
  refine wpAnyS_done (by kernel_rfl) ?_ _
  have HRF : Hid (w3.rowIs w.heap.size 3 n (fun j => .int .i64 (evz p zs (Dom.pt p s r j)))) := hF'.congr (fun j hj => by
    have := hv j hj
    rw [Nat.zero_add] at this
    rw [this, HEV.out j hj])
  have HBF : Hid (Below w.heap.size w w3) := (HB1.out.trans (hC1.mono (by omega))).trans (hpa.below (by rw [hsW]; omega) (Nat.le_refl _) (by omega))
  have hsf : w.heap.size < w3.heap.size := by have := hpa.size; rw [hsW] at this; omega
  clear hpa hF' hG' hv hcall hC1 hC0
  go_wp2_with fail
  go_ret
  exact ⟨rfl, HRF.out, HBF.out, hsf⟩

end Go.Proofs.YtidkhgplejglaacDoor
