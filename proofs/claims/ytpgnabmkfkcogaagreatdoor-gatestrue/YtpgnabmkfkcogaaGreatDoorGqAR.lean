/- The law GatesCatches, plainly: how many elements hide what is not so. Package gates: wire. -/
import Derived.Test.YtpgnabmkfkcogaaGreatDoorGqAL
import Derived.Test.YtpgnabmkfkcogaaGreatDoorGqAP
import Derived.Test.YtpgnabmkfkcogaaGreatDoorGqAQ
import Derived.Test.YtpgnabmkfkcogaaGreatDoorGqAI
namespace Go.Proofs.YtpgnabmkfkcogaaGreatDoor
open Go.RowKit

/-- what is told as a polynomial -/
theorem atz_ps {p n : Nat} (h3 : 3 ≤ p) {l : List Int} (hl : l.length = n) (r : Int) : (p : Int) ∣ atz p l r - Pol.ps (FS p (cnt' n) l n) r n := by
  unfold atz
  rw [evz_pfit h3, hl, cnt_len]
  exact Pol.emod_dvd p _
theorem told_at {p n : Nat} (hp : Num.Prime p) (h3 : 3 ≤ p) {l : List Int} (hn : n ≤ p) {j : Nat} (hj : j < n) : (p : Int) ∣ Pol.ps (FS p (cnt' n) l n) (j : Int) n - zat l j := by
  have hl : (cnt' n).length = n := cnt_len _
  have h := Sum.pfit_at hp h3 (cnt' n) l (by rw [hl]; exact cnt_unlike hn) j (by rw [hl]; exact hj)
  rw [hl, cnt_at hj] at h
  exact h
/-- is it hidden at t? -/
def hdl (p : Nat) (T x y line : List Int) (t : Nat) : Bool := decide (atz p line (t : Int) = exz p T (onl p x y (t : Int)))
end Go.Proofs.YtpgnabmkfkcogaaGreatDoor

namespace Go.Proofs.YtpgnabmkfkcogaaGreatDoor
open Go.RowKit

/-- a gate's part in a wire -/
def wrt (gs : List GatZ) (kind : Int) (z x y : List Int) (i : Nat) : Int := if (gat gs i).kind = kind then Sum.wgt (zat z) z.length i * Sum.wgt (zat x) x.length (gat gs i).a.toNat * Sum.wgt (zat y) y.length (gat gs i).b.toNat else 0
/-- how much of the gates of a kind there is -/
def wrz (p : Nat) (gs : List GatZ) (kind : Int) (z x y : List Int) : Int := Dom.sm (wrt gs kind z x y) gs.length % (p : Int)
theorem wrt_step {p : Nat} {gs : List GatZ} {kind : Int} {z x y : List Int} {i : Nat} (hk : (gat gs i).kind = kind) : (Dom.sm (wrt gs kind z x y) i % (p : Int) + Sum.prz (zat [Sum.wgt (zat z) z.length i % (p : Int), Sum.wgt (zat x) x.length (gat gs i).a.toNat % (p : Int), Sum.wgt (zat y) y.length (gat gs i).b.toNat % (p : Int)]) 3 % (p : Int)) % (p : Int) = Dom.sm (wrt gs kind z x y) (i + 1) % (p : Int) := by
  refine emod_of_dvd ?_
  rw [Dom.sm]
  refine Sum.dvd_add_sub (Pol.emod_dvd p _) ?_
  rw [show wrt gs kind z x y i = Sum.wgt (zat z) z.length i * Sum.wgt (zat x) x.length (gat gs i).a.toNat * Sum.wgt (zat y) y.length (gat gs i).b.toNat from if_pos hk]
  generalize Sum.wgt (zat z) z.length i = u1
  generalize Sum.wgt (zat x) x.length (gat gs i).a.toNat = u2
  generalize Sum.wgt (zat y) y.length (gat gs i).b.toNat = u3
  have e : Sum.prz (zat [u1 % (p : Int), u2 % (p : Int), u3 % (p : Int)]) 3 = u1 % (p : Int) * (u2 % (p : Int)) * (u3 % (p : Int)) := by simp [Sum.prz, zat]
  rw [e]
  have h := Sum.dvd_mul_sub (Sum.dvd_mul_sub (Pol.emod_dvd p u1) (Pol.emod_dvd p u2)) (Pol.emod_dvd p u3)
  have h2 := Pol.emod_dvd p (u1 % (p : Int) * (u2 % (p : Int)) * (u3 % (p : Int)))
  have := Int.dvd_add h2 h
  generalize u1 % (p : Int) * (u2 % (p : Int)) * (u3 % (p : Int)) % (p : Int) = A at *
  generalize u1 % (p : Int) * (u2 % (p : Int)) * (u3 % (p : Int)) = B at *
  generalize u1 * u2 * u3 = D at *
  rwa [show A - B + (B - D) = A - D from by omega] at this
theorem wrt_skip {p : Nat} {gs : List GatZ} {kind : Int} {z x y : List Int} {i : Nat} (hk : ¬ (gat gs i).kind = kind) : Dom.sm (wrt gs kind z x y) (i + 1) % (p : Int) = Dom.sm (wrt gs kind z x y) i % (p : Int) := by
  rw [Dom.sm, show wrt gs kind z x y i = 0 from if_neg hk, Int.add_zero]

set_option maxRecDepth 100000 in
set_option maxHeartbeats 4000000 in
theorem wire_any (p b cg cz cx cy : Nat) (zz : Value) (kind : Int) (ag az ax ay : Option Addr) (gs : List GatZ) (z x y : List Int) (w : World) (h3 : 3 ≤ p) (hm : p ≤ 2147483647) (hp : w.cell? ⟨b, 0, none⟩ = some (.int .i64 p)) (hn : gs.length ≤ 64) (hg : LstG w.heap.size w ag cg gs) (ho : ∀ k, k < gs.length → 0 ≤ (gat gs k).a ∧ 0 ≤ (gat gs k).b) (hz : z.length ≤ 60) (hx : x.length ≤ 60) (hy : y.length ≤ 60) (fz : Fits z) (fx : Fits x) (fy : Fits y) (rz : RowB w.heap.size w az z) (rx : RowB w.heap.size w ax x) (ry : RowB w.heap.size w ay y) :
    Calls Tryz.prog 215 #[.agg #[.pointer (some ⟨b, 0, none⟩), .slice ag gs.length cg, zz], .int .i64 kind, .slice az z.length cz, .slice ax x.length cx, .slice ay y.length cy] w fun e w' => e = .returned (.int .i64 (wrz p gs kind z x y)) ∧ Below w.heap.size w w' := by
  obtain ⟨W0, hW0⟩ : ∃ W0, W0 = w.alloc (.cells #[.pointer (some ⟨b, 0, none⟩), .slice ag gs.length cg, zz] 149) := ⟨_, rfl⟩
  obtain ⟨hb0, hs0, hz0⟩ := own_blk hW0
  obtain ⟨G, hG⟩ : ∃ G, G = w.heap.size := ⟨_, rfl⟩
  rw [← hG] at hs0
  have HGE := hid hG
  obtain ⟨n, hnn⟩ : ∃ n, n = gs.length := ⟨_, rfl⟩
  have HN := hid hnn
  obtain ⟨F, hF⟩ : ∃ F : Nat → Int, F = fun k => Dom.sm (wrt gs kind z x y) k % (p : Int) := ⟨_, rfl⟩
  have HFB : Hid (∀ k, 0 ≤ F k ∧ F k < p) := fun k => by rw [hF]; exact emod_bounds _ p h3
  have HF0 : Hid (F 0 = 0) := by unfold Hid; rw [hF]; rfl
  have HFS : Hid (∀ k, ¬ (gat gs k).kind = kind → F (k + 1) = F k) := fun k h => by rw [hF]; exact wrt_skip h
  have HFA : Hid (∀ k, (gat gs k).kind = kind → (F k + Sum.prz (zat [Sum.wgt (zat z) z.length k % (p : Int), Sum.wgt (zat x) x.length (gat gs k).a.toNat % (p : Int), Sum.wgt (zat y) y.length (gat gs k).b.toNat % (p : Int)]) 3 % (p : Int)) % (p : Int) = F (k + 1)) := fun k h => by rw [hF]; exact wrt_step h
  rw [show wrz p gs kind z x y = F n from by rw [hF, hnn]; rfl]
  rw [← hnn] at hn hs0 hW0 ⊢
  have c0 : W0.cell? ⟨G, 1, none⟩ = some (.slice ag n cg) := by simp [World.cell?, hs0]
  have HC : Hid (∀ W, Below W0.heap.size W0 W → (W.cell? ⟨G, 0, none⟩ = some (.pointer (some ⟨b, 0, none⟩)) ∧ W.cell? ⟨G, 1, none⟩ = some (.slice ag n cg) ∧ W.cell? ⟨G, 2, none⟩ = some zz) ∧ W.cell? ⟨b, 0, none⟩ = some (.int .i64 p)) := fun W hW => by
    have e1 := (hW.block G (by omega)).trans hs0
    exact ⟨⟨by simp [World.cell?, e1], by simp [World.cell?, e1], by simp [World.cell?, e1]⟩, (hW.cell (p := ⟨b, 0, none⟩) (by have := heap_lt hp; show b < _; omega)).trans ((hb0.cell (p := ⟨b, 0, none⟩) (heap_lt hp)).trans hp)⟩
  have HGS := hid hg
  have HOK := hid ho
  have HB0 := hid hb0
  have HWG := hid hW0
  have HBW : Hid (∀ W, Below W0.heap.size W0 W → Below w.heap.size w W) := fun W hW => hb0.trans (hW.mono hb0.size)
  have HWZ0 : Hid (∀ (W : World) (i : Nat), Below W0.heap.size W0 W → Calls Tryz.prog 250 #[.agg #[.pointer (some ⟨b, 0, none⟩), .slice ag n cg, zz], .int .i64 (i : Int), .slice az z.length cz] W fun e w' => e = .returned (.int .i64 (Sum.wgt (zat z) z.length i % (p : Int))) ∧ Below W.heap.size W w') := fun W i hW => by
    have hbw := HBW.out W hW
    exact weight_any p b cz i _ _ az z W h3 hm (HC.out W hW).2 hz fz ((rz.below hbw).mono hbw.size)
  have HWX0 : Hid (∀ (W : World) (i : Nat), Below W0.heap.size W0 W → Calls Tryz.prog 250 #[.agg #[.pointer (some ⟨b, 0, none⟩), .slice ag n cg, zz], .int .i64 (i : Int), .slice ax x.length cx] W fun e w' => e = .returned (.int .i64 (Sum.wgt (zat x) x.length i % (p : Int))) ∧ Below W.heap.size W w') := fun W i hW => by
    have hbw := HBW.out W hW
    exact weight_any p b cx i _ _ ax x W h3 hm (HC.out W hW).2 hx fx ((rx.below hbw).mono hbw.size)
  have HWY0 : Hid (∀ (W : World) (i : Nat), Below W0.heap.size W0 W → Calls Tryz.prog 250 #[.agg #[.pointer (some ⟨b, 0, none⟩), .slice ag n cg, zz], .int .i64 (i : Int), .slice ay y.length cy] W fun e w' => e = .returned (.int .i64 (Sum.wgt (zat y) y.length i % (p : Int))) ∧ Below W.heap.size W w') := fun W i hW => by
    have hbw := HBW.out W hW
    exact weight_any p b cy i _ _ ay y W h3 hm (HC.out W hW).2 hy fy ((ry.below hbw).mono hbw.size)
  have HPR0 : Hid (∀ (W : World) (u1 u2 u3 : Int), Below W0.heap.size W0 W → (0 ≤ u1 ∧ u1 < p) → (0 ≤ u2 ∧ u2 < p) → (0 ≤ u3 ∧ u3 < p) → Calls Tryz.prog 249 #[.agg #[.pointer (some ⟨b, 0, none⟩), .slice ag n cg, zz], .slice (some ⟨W.heap.size, 0, none⟩) 3 3] (W.alloc (.cells #[.int .i64 u1, .int .i64 u2, .int .i64 u3] 3)) fun e w' => e = .returned (.int .i64 (Sum.prz (zat [u1, u2, u3]) 3 % (p : Int))) ∧ Below (W.alloc (.cells #[.int .i64 u1, .int .i64 u2, .int .i64 u3] 3)).heap.size (W.alloc (.cells #[.int .i64 u1, .int .i64 u2, .int .i64 u3] 3)) w') := fun W u1 u2 u3 hW h1 h2 h4 => by
    have hA := heap_alloc_new W (.cells #[.int .i64 u1, .int .i64 u2, .int .i64 u3] 3)
    have hBA := hW.alloc hW.size (.cells #[.int .i64 u1, .int .i64 u2, .int .i64 u3] 3)
    refine gproduct_any p b 3 _ _ (some ⟨W.heap.size, 0, none⟩) [u1, u2, u3] _ h3 hm (HC.out _ hBA).2 (by simp) (fun i hi => ?_) (fun i hi => ?_)
    · match i, hi with
      | 0, _ => simp [zat]; omega
      | 1, _ => simp [zat]; omega
      | 2, _ => simp [zat]; omega
    · refine ⟨W.heap.size, 0, rfl, by simp, ?_⟩
      rw [World.cell?]
      show (match (W.alloc (.cells #[.int .i64 u1, .int .i64 u2, .int .i64 u3] 3)).heap[W.heap.size]? with | some (.cells c _ _) => c[0 + i]? | _ => none) = _
      rw [hA]
      match i, hi with
      | 0, _ => rfl
      | 1, _ => rfl
      | 2, _ => rfl
  have HAD0 : Hid (∀ (W : World) (u1 u2 : Int), Below W0.heap.size W0 W → (0 ≤ u1 ∧ u1 < p) → (0 ≤ u2 ∧ u2 < p) → Calls Tryz.prog 120 #[.pointer (some ⟨b, 0, none⟩), .int .i64 u1, .int .i64 u2] W fun e w' => e = .returned (.int .i64 ((u1 + u2) % (p : Int))) ∧ w' = W) := fun W u1 u2 hW h1 h2 => add_any p b u1 u2 W h3 hm (HC.out W hW).2 (by omega) (by omega) (by omega) (by omega)
  obtain ⟨Uz, hUz⟩ : ∃ U : Nat → Int, U = fun i => Sum.wgt (zat z) z.length i % (p : Int) := ⟨_, rfl⟩
  obtain ⟨Ux, hUx⟩ : ∃ U : Nat → Int, U = fun i => Sum.wgt (zat x) x.length i % (p : Int) := ⟨_, rfl⟩
  obtain ⟨Uy, hUy⟩ : ∃ U : Nat → Int, U = fun i => Sum.wgt (zat y) y.length i % (p : Int) := ⟨_, rfl⟩
  have HUB : Hid (∀ i, (0 ≤ Uz i ∧ Uz i < p) ∧ (0 ≤ Ux i ∧ Ux i < p) ∧ (0 ≤ Uy i ∧ Uy i < p)) := fun i => by rw [hUz, hUx, hUy]; exact ⟨emod_bounds _ p h3, emod_bounds _ p h3, emod_bounds _ p h3⟩
  simp only [show ∀ i, Sum.wgt (zat z) z.length i % (p : Int) = Uz i from fun i => by rw [hUz], show ∀ i, Sum.wgt (zat x) x.length i % (p : Int) = Ux i from fun i => by rw [hUx], show ∀ i, Sum.wgt (zat y) y.length i % (p : Int) = Uy i from fun i => by rw [hUy]] at HFA HWZ0 HWX0 HWY0
  generalize z.length = nz at *
  generalize x.length = nx at *
  generalize y.length = ny at *
  clear hg ho hp hb0 hs0 hnn hF hG hz0 hW0 fz fx fy rz rx ry hUz hUx hUy hz hx hy
  go_enter Tryz.func215, Tryz.ntmps215
  go_wp2_with fail
  rw [← HWG.out, ← HGE.out]
  clear HWG c0
  go_loopw [11, 12, 13, 17] (fun sv _ _ iv wr => ∃ k : Nat, k ≤ n ∧ iv = .int .i64 (k : Int) ∧ (∃ s : Int, sv = .int .i64 s ∧ Hid (s = F k)) ∧ Hid (Below W0.heap.size W0 wr)) (fun _ _ _ iv _ => n - (intOf iv).toNat)
  case atStart => exact ⟨0, by omega, rfl, ⟨0, rfl, HF0.out.symm⟩, Below.refl _ _⟩
  case round =>
    obtain ⟨k, hk, rfl, ⟨s0, rfl, hs⟩, hI⟩ := hrel
    by_cases hlt : k < n
    · have hlt2 : (k : Int) < (n : Int) := by omega
      have hks : IntKind.i64.wrap ((k : Int) + 1) = (k : Int) + 1 := by rw [IntKind.wrap_i64]; omega
      have hbw : Below w.heap.size w wr := HBW.out wr hI.out
      obtain ⟨b1, o1, rfl, hb1, g0, g1, g2⟩ := (HGS.out.below hbw).row k (by rw [← HN.out]; exact hlt)
      obtain ⟨ha0, hb0'⟩ := HOK.out k (by rw [← HN.out]; exact hlt)
      have HFE := hid (HFA.out k)
      have HFN := hid (HFS.out k)
      generalize gat gs k = g at *
      obtain ⟨gk, ga0, gb0⟩ := g
      simp only at g0 g1 g2 ha0 hb0' HFE HFN
      obtain ⟨ga, rfl⟩ : ∃ ga : Nat, ga0 = (ga : Int) := ⟨ga0.toNat, by omega⟩
      obtain ⟨gb, rfl⟩ : ∃ gb : Nat, gb0 = (gb : Int) := ⟨gb0.toNat, by omega⟩
      rw [Int.toNat_natCast, Int.toNat_natCast] at HFE
      obtain ⟨W2, hW2⟩ : ∃ W2, W2 = wr.alloc (.cells #[.int .i64 gk, .int .i64 (ga : Int), .int .i64 (gb : Int)] 85) := ⟨_, rfl⟩
      obtain ⟨hb2, hs2, hz2⟩ := own_blk hW2
      obtain ⟨B, hB⟩ : ∃ B, B = wr.heap.size := ⟨_, rfl⟩
      have HBE := hid hB
      rw [← hB] at hs2
      have HB2 : Hid (Below W0.heap.size W0 W2) := hI.out.trans (hb2.mono hI.out.size)
      by_cases hkk : gk = kind
      · subst hkk
        have hkb : (gk == gk) = true := beq_self_eq_true _
        have HBD : Hid (Below W2.heap.size W2 W2.drew) := (Below.refl _ _).drew
        have HBX : Hid (∀ W, Below W2.heap.size W2 W → Below W0.heap.size W0 W) := fun W hW => HB2.out.trans (hW.mono HB2.out.size)
        have HSB : Hid (∀ W, Below W2.heap.size W2 W → (W.cell? ⟨G, 0, none⟩ = some (.pointer (some ⟨b, 0, none⟩)) ∧ W.cell? ⟨G, 1, none⟩ = some (.slice (some ⟨b1, o1, none⟩) n cg) ∧ W.cell? ⟨G, 2, none⟩ = some zz) ∧ (W.cell? ⟨B, 0, none⟩ = some (.int .i64 gk) ∧ W.cell? ⟨B, 1, none⟩ = some (.int .i64 (ga : Int)) ∧ W.cell? ⟨B, 2, none⟩ = some (.int .i64 (gb : Int)))) := fun W hW => by
          have e1 := (hW.block B (by omega)).trans hs2
          exact ⟨(HC.out W (HBX.out W hW)).1, by simp [World.cell?, e1], by simp [World.cell?, e1], by simp [World.cell?, e1]⟩
        obtain ⟨u1, hu1⟩ : ∃ u, u = Uz k := ⟨_, rfl⟩
        obtain ⟨u2, hu2⟩ : ∃ u, u = Ux ga := ⟨_, rfl⟩
        obtain ⟨u3, hu3⟩ : ∃ u, u = Uy gb := ⟨_, rfl⟩
        have q1 := (HUB.out k).1
        have q2 := (HUB.out ga).2.1
        have q3 := (HUB.out gb).2.2
        have HWZ := hid (fun W h => HWZ0.out W k (HBX.out W h))
        have HWX := hid (fun W h => HWX0.out W ga (HBX.out W h))
        have HWY := hid (fun W h => HWY0.out W gb (HBX.out W h))
        have HFE2 := hid (HFE.out rfl)
        rw [← hu1, ← hu2, ← hu3] at HFE2
        rw [← hu1] at HWZ q1
        rw [← hu2] at HWX q2
        rw [← hu3] at HWY q3
        have HPR := hid (fun W h => HPR0.out W u1 u2 u3 (HBX.out W h) q1 q2 q3)
        obtain ⟨t1, t2⟩ := emod_bounds (Sum.prz (zat [u1, u2, u3]) 3) p h3
        generalize Sum.prz (zat [u1, u2, u3]) 3 % (p : Int) = T at *
        have hsb := HFB.out k
        rw [← hs.out] at hsb HFE2
        have HAD := hid (fun W h => HAD0.out W s0 T (HBX.out W h) hsb ⟨t1, t2⟩)
        generalize (s0 + T) % (p : Int) = E at *
        clear hI hb2 hs2 hz2 hbw hB hs hsb t1 t2 q1 q2 q3 hu1 hu2 hu3 HFN HFE
        go_wp2_with fail
        rw [← hW2, ← HBE.out]
        clear hW2 g0 g1 g2
        refine wp_region_held_drew (S := fun W => (W.cell? ⟨G, 0, none⟩ = some (.pointer (some ⟨b, 0, none⟩)) ∧ W.cell? ⟨G, 1, none⟩ = some (.slice (some ⟨b1, o1, none⟩) n cg) ∧ W.cell? ⟨G, 2, none⟩ = some zz) ∧ (W.cell? ⟨B, 0, none⟩ = some (.int .i64 gk) ∧ W.cell? ⟨B, 1, none⟩ = some (.int .i64 (ga : Int)) ∧ W.cell? ⟨B, 2, none⟩ = some (.int .i64 (gb : Int)))) (by kernel_rfl) (HSB.out _ HBD.out) (fun hHeld => ?_)
        refine wpAnyH_takeU (i := 0) (v := .pointer (some ⟨G, 0, none⟩)) rfl (by kernel_rfl) (by kernel_rfl) (by kernel_rfl) (fun _ _ _ h => h) (by rfl) (fun W hC => by go_simp) hHeld ?_
        simp only [Act.put, List.setIfInBounds_toArray, List.set_cons_zero, List.set_cons_succ]
        refine wpAnyH_takeU (i := 1) (v := .pointer (some ⟨b, 0, none⟩)) rfl (by kernel_rfl) (by kernel_rfl) (by kernel_rfl) (fun _ _ _ h => h) (by rfl) (fun W hC => by (obtain ⟨⟨x1, x2, x3⟩, x4, x5, x6⟩ := hC); go_simp) hHeld ?_
        simp only [Act.put, List.setIfInBounds_toArray, List.set_cons_zero, List.set_cons_succ]
        refine wpAnyH_takeU (i := 2) (v := .int .i64 s0) rfl (by kernel_rfl) (by kernel_rfl) (by kernel_rfl) (fun _ _ _ h => h) (by rfl) (fun W hC => by go_simp) hHeld ?_
        simp only [Act.put, List.setIfInBounds_toArray, List.set_cons_zero, List.set_cons_succ]
        refine wpAnyH_takeU (i := 3) (v := .agg #[.pointer (some ⟨b, 0, none⟩), .slice (some ⟨b1, o1, none⟩) n cg, zz]) rfl (by kernel_rfl) (by kernel_rfl) (by kernel_rfl) (fun _ _ _ h => h) (by rfl) (fun W hC => by (obtain ⟨⟨x1, x2, x3⟩, x4, x5, x6⟩ := hC); go_simp) hHeld ?_
        simp only [Act.put, List.setIfInBounds_toArray, List.set_cons_zero, List.set_cons_succ]
        refine wpAnyH_takeU (i := 4) (v := .agg #[.pointer (some ⟨b, 0, none⟩), .slice (some ⟨b1, o1, none⟩) n cg, zz]) rfl (by kernel_rfl) (by kernel_rfl) (by kernel_rfl) (fun _ _ _ h => h) (by rfl) (fun W hC => by (obtain ⟨⟨x1, x2, x3⟩, x4, x5, x6⟩ := hC); go_simp) hHeld ?_
        simp only [Act.put, List.setIfInBounds_toArray, List.set_cons_zero, List.set_cons_succ]
        refine wpAnyH_takeU (i := 5) (v := .int .i64 (k : Int)) rfl (by kernel_rfl) (by kernel_rfl) (by kernel_rfl) (fun _ _ _ h => h) (by rfl) (fun W hC => by go_simp) hHeld ?_
        simp only [Act.put, List.setIfInBounds_toArray, List.set_cons_zero, List.set_cons_succ]
        refine wpAnyH_takeU (i := 6) (v := .slice az nz cz) rfl (by kernel_rfl) (by kernel_rfl) (by kernel_rfl) (fun _ _ _ h => h) (by rfl) (fun W hC => by go_simp) hHeld ?_
        simp only [Act.put, List.setIfInBounds_toArray, List.set_cons_zero, List.set_cons_succ]
        refine wpAnyH_takeU (i := 8) (v := .agg #[.pointer (some ⟨b, 0, none⟩), .slice (some ⟨b1, o1, none⟩) n cg, zz]) rfl (by kernel_rfl) (by kernel_rfl) (by kernel_rfl) (fun _ _ _ h => h) (by rfl) (fun W hC => by (obtain ⟨⟨x1, x2, x3⟩, x4, x5, x6⟩ := hC); go_simp) hHeld ?_
        simp only [Act.put, List.setIfInBounds_toArray, List.set_cons_zero, List.set_cons_succ]
        refine wpAnyH_takeU (i := 9) (v := .pointer (some ⟨B, 1, none⟩)) rfl (by kernel_rfl) (by kernel_rfl) (by kernel_rfl) (fun _ _ _ h => h) (by rfl) (fun W hC => by go_simp) hHeld ?_
        simp only [Act.put, List.setIfInBounds_toArray, List.set_cons_zero, List.set_cons_succ]
        refine wpAnyH_takeU (i := 10) (v := .int .i64 (ga : Int)) rfl (by kernel_rfl) (by kernel_rfl) (by kernel_rfl) (fun _ _ _ h => h) (by rfl) (fun W hC => by (obtain ⟨⟨x1, x2, x3⟩, x4, x5, x6⟩ := hC); go_simp) hHeld ?_
        simp only [Act.put, List.setIfInBounds_toArray, List.set_cons_zero, List.set_cons_succ]
        refine wpAnyH_takeU (i := 11) (v := .slice ax nx cx) rfl (by kernel_rfl) (by kernel_rfl) (by kernel_rfl) (fun _ _ _ h => h) (by rfl) (fun W hC => by go_simp) hHeld ?_
        simp only [Act.put, List.setIfInBounds_toArray, List.set_cons_zero, List.set_cons_succ]
        refine wpAnyH_takeU (i := 13) (v := .agg #[.pointer (some ⟨b, 0, none⟩), .slice (some ⟨b1, o1, none⟩) n cg, zz]) rfl (by kernel_rfl) (by kernel_rfl) (by kernel_rfl) (fun _ _ _ h => h) (by rfl) (fun W hC => by (obtain ⟨⟨x1, x2, x3⟩, x4, x5, x6⟩ := hC); go_simp) hHeld ?_
        simp only [Act.put, List.setIfInBounds_toArray, List.set_cons_zero, List.set_cons_succ]
        refine wpAnyH_takeU (i := 14) (v := .pointer (some ⟨B, 2, none⟩)) rfl (by kernel_rfl) (by kernel_rfl) (by kernel_rfl) (fun _ _ _ h => h) (by rfl) (fun W hC => by go_simp) hHeld ?_
        simp only [Act.put, List.setIfInBounds_toArray, List.set_cons_zero, List.set_cons_succ]
        refine wpAnyH_takeU (i := 15) (v := .int .i64 (gb : Int)) rfl (by kernel_rfl) (by kernel_rfl) (by kernel_rfl) (fun _ _ _ h => h) (by rfl) (fun W hC => by (obtain ⟨⟨x1, x2, x3⟩, x4, x5, x6⟩ := hC); go_simp) hHeld ?_
        simp only [Act.put, List.setIfInBounds_toArray, List.set_cons_zero, List.set_cons_succ]
        refine wpAnyH_takeU (i := 16) (v := .slice ay ny cy) rfl (by kernel_rfl) (by kernel_rfl) (by kernel_rfl) (fun _ _ _ h => h) (by rfl) (fun W hC => by go_simp) hHeld ?_
        simp only [Act.put, List.setIfInBounds_toArray, List.set_cons_zero, List.set_cons_succ]
        refine wpAnyH_ready (rs := [7]) (by kernel_rfl) (by simp) ?_
        refine AllReadyH.consU rfl (fun K' hK' => ?_) AllReadyH.nil
        go_simp
        refine (HWZ.out _ HBD.out).mono ?_
        rintro e w3 ⟨rfl, hb3⟩
        have hB3 := HBD.out.trans hb3
        have hS3 := HSB.out w3 hB3
        clear hb3
        refine hK'.out _ _ (hS3) (fun hHeld => ?_)
        clear hK' K'
        refine wpAnyH_ready (rs := [12]) (by kernel_rfl) (by simp) ?_
        refine AllReadyH.consU rfl (fun K' hK' => ?_) AllReadyH.nil
        go_simp
        refine (HWX.out _ hB3).mono ?_
        rintro e w4 ⟨rfl, hb4⟩
        have hB4 := hB3.trans (hb4.mono hB3.size)
        have hS4 := HSB.out w4 hB4
        clear hb4 hS3 hB3
        refine hK'.out _ _ (hS4) (fun hHeld => ?_)
        clear hK' K'
        refine wpAnyH_ready (rs := [17]) (by kernel_rfl) (by simp) ?_
        refine AllReadyH.consU rfl (fun K' hK' => ?_) AllReadyH.nil
        go_simp
        refine (HWY.out _ hB4).mono ?_
        rintro e w5 ⟨rfl, hb5⟩
        have hB5 := hB4.trans (hb5.mono hB4.size)
        have hS5 := HSB.out w5 hB5
        clear hb5 hS4 hB4
        refine hK'.out _ _ (hS5) (fun hHeld => ?_)
        clear hK' K'
        have hB6 := hB5.alloc hB5.size (.cells #[.int .i64 u1, .int .i64 u2, .int .i64 u3] 3)
        have hS6 := HSB.out _ hB6
        refine wpAnyH_ready (rs := [18]) (by kernel_rfl) (by simp) ?_
        refine AllReadyH.consU rfl (fun K' hK' => ?_) AllReadyH.nil
        go_simp
        refine hK'.out _ _ (hS6) (fun hHeld => ?_)
        clear hK' K'
        have HPX := hid (HPR.out w5 hB5)
        generalize w5.alloc (.cells #[.int .i64 u1, .int .i64 u2, .int .i64 u3] 3) = W6 at *
        clear hS5 hB5
        refine wpAnyH_ready (rs := [19]) (by kernel_rfl) (by simp) ?_
        refine AllReadyH.consU rfl (fun K' hK' => ?_) AllReadyH.nil
        go_simp
        refine (HPX.out).mono ?_
        rintro e w7 ⟨rfl, hb7⟩
        have hB7 := hB6.trans (hb7.mono hB6.size)
        have hS7 := HSB.out w7 hB7
        clear hb7 hS6 hB6 HPX
        refine hK'.out _ _ (hS7) (fun hHeld => ?_)
        clear hK' K'
        refine wpAnyH_ready (rs := [20]) (by kernel_rfl) (by simp) ?_
        refine AllReadyH.consU rfl (fun K' hK' => ?_) AllReadyH.nil
        go_simp
        refine (HAD.out _ hB7).mono ?_
        rintro e w8 ⟨rfl, hw8⟩
        have hw8' := hw8.symm
        subst hw8'
        clear hw8
        refine hK'.out _ _ (hS7) (fun hHeld => ?_)
        clear hK' K'
        refine wpAnyH_ready (rs := [21]) (by kernel_rfl) (by simp) ?_
        refine AllReadyH.consU rfl (fun K' hK' => ?_) AllReadyH.nil
        go_simp
        refine hK'.out _ _ (hS7) (fun hHeld => ?_)
        clear hK' K'
        refine wpAnyH_done (by kernel_rfl) ?_ _
        go_wp2_with fail
        go_roundw
        case rel => exact ⟨k + 1, by omega, by go_num, ⟨E, rfl, HFE2.out⟩, HBX.out _ hB7⟩
        case measure => simp [intOf]; omega
      · have hkb : (gk == kind) = false := by rw [beq_eq_false_iff_ne]; exact hkk
        have HE : Hid (s0 = F (k + 1)) := by unfold Hid; rw [HFN.out hkk]; exact hs.out
        have d0 : W2.cell? ⟨B, 0, none⟩ = some (.int .i64 gk) := by simp [World.cell?, hs2]
        clear hI hb2 hs2 hz2 hbw hB hs HFN HFE hkk
        go_wp2_with fail
        rw [← hW2]
        go_roundw
        case rel => exact ⟨k + 1, by omega, by go_num, ⟨s0, rfl, HE.out⟩, HB2.out⟩
        case measure => simp [intOf]; omega
    · obtain rfl : k = n := by omega
      have hlt2 : ¬ (k : Int) < (k : Int) := by omega
      have HE : Hid (Below w.heap.size w wr) := HBW.out wr hI.out
      clear hI
      go_wp2_with fail
      go_ret
      exact ⟨by rw [← hs.out]; rfl, HE.out⟩

end Go.Proofs.YtpgnabmkfkcogaaGreatDoor
