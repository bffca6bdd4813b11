/- attestref4: Fixed, Round, Check. -/
import Derived.Test.YtecaifjbmfianagDoorSumS
import Derived.Test.YtecaifjbmfianagDoorTres
import Derived.Deep.RegionHeld3
namespace Go.Proofs.YtecaifjbmfianagDoor
open Go.RowKit

/-- all tables over one variable less -/
def fixr (p : Nat) (rows : List (List Int)) (r : Int) : List (List Int) := rows.map (fun t => fixl p t r)
theorem fixr_len (p : Nat) (rows : List (List Int)) (r : Int) : (fixr p rows r).length = rows.length := by simp [fixr]
theorem fixr_rat {p : Nat} {rows : List (List Int)} {r : Int} {k : Nat} (h : k < rows.length) : rat (fixr p rows r) k = fixl p (rat rows k) r := by simp [rat, fixr, h]
theorem fixl_fits {p : Nat} (h3 : 3 ≤ p) (hm : p ≤ 2147483647) (t : List Int) (r : Int) : Fits (fixl p t r) := fun j hj => by
  rw [fixl_len] at hj
  rw [fixl_at hj]
  have := emod_bounds (zat t j * (1 - r) + zat t (j + t.length / 2) * r) p h3
  omega
theorem fixr_fits {p : Nat} (h3 : 3 ≤ p) (hm : p ≤ 2147483647) (rows : List (List Int)) (r : Int) : ∀ k, k < (fixr p rows r).length → Fits (rat (fixr p rows r) k) := fun k hk => by
  rw [fixr_len] at hk
  rw [fixr_rat hk]
  exact fixl_fits h3 hm _ _
theorem fixr_lens {p N : Nat} {rows : List (List Int)} (h : ∀ k, k < rows.length → (rat rows k).length = N) (r : Int) : ∀ k, k < (fixr p rows r).length → (rat (fixr p rows r) k).length = N / 2 := fun k hk => by
  rw [fixr_len] at hk
  rw [fixr_rat hk, fixl_len, h k hk]

set_option maxRecDepth 100000 in
set_option maxHeartbeats 1000000 in
theorem rfixed_any (p cap : Nat) (a : Option Addr) (rows : List (List Int)) (r : Int) (w : World) (h3 : 3 ≤ p) (hm : p ≤ 2147483647) (hn : rows.length ≤ 5864062014800) (hf : ∀ k, k < rows.length → Fits (rat rows k)) (hfl : ∀ k, k < rows.length → (rat rows k).length ≤ 17592186043904) (hr1 : -9223372036854775808 ≤ r) (hr2 : r ≤ 9223372036854775807) (hl : LstR w.heap.size w a cap rows) :
    Calls Tryd.prog 14 #[.int .i64 p, .slice a rows.length cap, .int .i64 r] w fun e w' => ∃ v, e = .returned v ∧ OwnR w.heap.size w' v (fixr p rows r) ∧ Below w.heap.size w w' := by
  have HL := hid hl
  have HF := hid hf
  have HFL := hid hfl
  obtain ⟨d, hd⟩ : ∃ d, d = rows.length := ⟨_, rfl⟩
  rw [← hd] at hn ⊢
  have HD := hid hd
  obtain ⟨R, hR⟩ : ∃ R, R = fixr p rows r := ⟨_, rfl⟩
  have HRL : Hid (R.length = d) := by unfold Hid; rw [hR, fixr_len, hd]
  have HRR : Hid (∀ k, k < d → rat R k = fixl p (rat rows k) r) := fun k hk => by rw [hR]; exact fixr_rat (by omega)
  have HR0 := hid hR
  clear hl hf hfl hd hR
  go_enter Tryd.func14, Tryd.ntmps14
  go_wp2_with fail
  go_loopw [7, 8] (fun v iv wr => ∃ k : Nat, k ≤ d ∧ iv = .int .i64 k ∧ Hid (OwnR w.heap.size wr v (R.take k)) ∧ Hid (Below w.heap.size w wr)) (fun _ iv _ => d - (intOf iv).toNat)
  case atStart => exact ⟨0, by omega, rfl, by rw [List.take_zero]; exact OwnR.nil _ _, Below.refl _ _⟩
  case round =>
    obtain ⟨k, hk, rfl, hown, hbel⟩ := hrel
    by_cases hlt : k < d
    · have hlt2 : (k : Int) < (d : Int) := by omega
      have hks : IntKind.i64.wrap ((k : Int) + 1) = (k : Int) + 1 := by rw [IntKind.wrap_i64]; omega
      obtain ⟨b, o, ak, ck, rfl, hb, hc, hlk⟩ := HL.out.row k (by rw [← HD.out]; exact hlt)
      have hc2 := (hbel.out.cell (p := ⟨b, o + k, none⟩) hb).trans hc
      have HFX := hid (rfix_any p ck ak (rat rows k) r wr wr.heap.size h3 hm (HFL.out k (by rw [← HD.out]; exact hlt)) (HF.out k (by rw [← HD.out]; exact hlt)) hr1 hr2 ((hlk.below hbel.out).mono hbel.out.size).row (Nat.le_refl _))
      have HTK : Hid (R.take (k + 1) = R.take k ++ [fixl p (rat rows k) r]) := by unfold Hid; rw [take_succ_rat (by rw [HRL.out]; exact hlt), HRR.out k hlt]
      have HKL : Hid ((R.take k).length = k) := by unfold Hid; rw [List.length_take, HRL.out]; omega
      clear hc hlk
      generalize fixl p (rat rows k) r = t at *
      generalize (rat rows k).length = tl at *
      go_wp2_with fail
      refine HFX.out.mono ?_
      rintro e w1 ⟨v1, rfl, ho1, hb1⟩
      have HS1 := hid (slr_of_owns ho1)
      obtain ⟨a1, c1, hv1, _⟩ := HS1.out.lst
      subst hv1
      have HO1 := hid (hown.out.keep hb1)
      have HB1 : Hid (Below w.heap.size w w1) := hbel.out.trans (hb1.mono hbel.out.size)
      clear ho1 hb1 hown hbel HFX
      go_wp2_with (at_builtin; refine wpList_row1 w1 w.heap.size rfl _ _ rfl _ _ (R.take k) t HO1.out HS1.out rfl rfl (by rw [HKL.out]; omega) HB1.out.size ?_)
      intro v3 w3 ho3 hb3 _
      rw [← HTK.out] at ho3
      have HO3 := hid ho3
      have HB3 : Hid (Below w.heap.size w w3) := HB1.out.trans hb3
      clear ho3 hb3
      go_wp2_with fail
      go_roundw
      case rel => exact ⟨k + 1, by omega, by go_num, HO3, HB3⟩
      case measure => simp [intOf]; omega
    · obtain rfl : k = d := by omega
      have hlt2 : ¬ (k : Int) < (k : Int) := by omega
      have HTE : Hid (R.take k = fixr p rows r) := by unfold Hid; rw [← HRL.out, List.take_length, HR0.out]
      have HO := hown
      rw [HTE.out] at HO
      clear hown HTE
      go_wp2_with fail
      go_ret
      exact ⟨_, rfl, HO.out, hbel.out⟩

/-- the Totals with the first variable 0, 1, .. -/
def rndl (p : Nat) (rows : List (List Int)) : List Int := ls (fun x => totz p (fixr p rows (x : Int))) (rows.length + 1)
theorem rndl_len (p : Nat) (rows : List (List Int)) : (rndl p rows).length = rows.length + 1 := ls_len _ _

set_option maxRecDepth 100000 in
set_option maxHeartbeats 1000000 in
theorem rround_any (p cap N : Nat) (a : Option Addr) (rows : List (List Int)) (w : World) (h3 : 3 ≤ p) (hm : p ≤ 2147483647) (h1 : 1 ≤ rows.length) (hn : rows.length ≤ 5864062014800) (hlen : ∀ k, k < rows.length → (rat rows k).length = N) (hN : N ≤ 17592186043904) (hf : ∀ k, k < rows.length → Fits (rat rows k)) (hl : LstR w.heap.size w a cap rows) :
    Calls Tryd.prog 12 #[.int .i64 p, .slice a rows.length cap] w fun e w' => ∃ v, e = .returned v ∧ w'.ownsRow w.heap.size 3 1 v (rndl p rows).length ((rndl p rows).map (Value.int .i64)) ∧ Below w.heap.size w w' := by
  obtain ⟨i0, hi, hz0, hz1, hz2⟩ := info_parts Tryd.infoInt
  have HFX : Hid (∀ (x : Nat) (W : World), x ≤ rows.length → Below w.heap.size w W → Calls Tryd.prog 14 #[.int .i64 p, .slice a rows.length cap, .int .i64 (x : Int)] W fun e w' => ∃ v, e = .returned v ∧ OwnR W.heap.size w' v (fixr p rows (x : Int)) ∧ Below W.heap.size W w') := fun x W hx hb =>
    rfixed_any p cap a rows (x : Int) W h3 hm hn hf (fun k hk => by rw [hlen k hk]; exact hN) (by omega) (by omega) ((hl.below hb).mono hb.size)
  have HTO : Hid (∀ (x : Nat) (W : World) (v : Value) (bs : Nat), OwnR bs W v (fixr p rows (x : Int)) → Calls Tryd.prog 41 #[.int .i64 p, v] W fun e w' => e = .returned (.int .i64 (totz p (fixr p rows (x : Int)))) ∧ w' = W) := fun x W v bs ho => by
    obtain ⟨a2, c2, rfl, hl2⟩ := ho.lst
    exact rtotal_any p c2 W.heap.size (N / 2) a2 (fixr p rows (x : Int)) W h3 hm (by rw [fixr_len]; exact h1) (by rw [fixr_len]; omega) (fixr_lens hlen _) (by omega) (fixr_fits h3 hm _ _) hl2
  obtain ⟨G, hG⟩ : ∃ G : Nat → Int, G = fun x : Nat => totz p (fixr p rows (x : Int)) := ⟨_, rfl⟩
  have HG := hid hG
  obtain ⟨d, hd⟩ : ∃ d, d = rows.length := ⟨_, rfl⟩
  have HE0 : Hid (rndl p rows = ls G (d + 1)) := by unfold Hid rndl; rw [hG, hd]
  rw [← hd] at hn HFX ⊢
  clear hl hf hlen hd hG h1
  go_enter Tryd.func12, Tryd.ntmps12
  go_wp2_with fail
  go_loopw [5, 6] (fun v iv wr => ∃ k : Nat, k ≤ d + 1 ∧ iv = .int .i64 k ∧ Hid (wr.ownsRow w.heap.size 3 1 v (ls G k).length ((ls G k).map (Value.int .i64)) ∧ Below w.heap.size w wr)) (fun _ iv _ => d + 1 - (intOf iv).toNat)
  case atStart => exact ⟨0, by omega, rfl, World.ownsRow_nil _ _ _ _, Below.refl _ _⟩
  case round =>
    obtain ⟨k, hk, rfl, hI⟩ := hrel
    by_cases hlt : k ≤ d
    · have hlt2 : (k : Int) ≤ (d : Int) := by omega
      have hks : IntKind.i64.wrap ((k : Int) + 1) = (k : Int) + 1 := by rw [IntKind.wrap_i64]; omega
      have HX := hid (HFX.out k wr hlt hI.out.2)
      have HS : Hid (totz p (fixr p rows (k : Int)) = G k) := by unfold Hid; rw [HG.out]
      have HT := hid (HTO.out k)
      have HLS := hid (ls_len G k)
      have HSC := hid (ls_succ G k)
      rw [HS.out] at HT
      generalize fixr p rows (k : Int) = fx at *
      generalize G k = z at *
      clear HS
      go_wp2_with fail
      refine HX.out.mono ?_
      rintro e w1 ⟨v1, rfl, ho1, hb1⟩
      have HO1 := hid ho1
      have hown := hI.out.1.kept (gb_of_below hb1) (by cases Value.ownBlock _ with
        | none => exact .inl rfl
        | some k => exact .inr (by simp))
      have hbel : Below w.heap.size w w1 := hI.out.2.trans (hb1.mono hI.out.2.size)
      obtain ⟨a1, c1, hv1, _⟩ := ho1.lst
      subst hv1
      have HOW := hid hown
      have HBE := hid hbel
      clear ho1 hb1 hI HX hown hbel
      go_wp2_with fail
      refine (HT.out w1 _ _ HO1.out).mono ?_
      rintro e w2 ⟨rfl, rfl⟩
      have hown := HOW.out
      have hbel := HBE.out
      have hsz := hbel.size
      generalize ls G k = Z at *
      have hZ : Z.length ≤ 17592186043904 := by rw [HLS.out]; omega
      go_wp2_with (at_builtin; refine wpList_append_own _ rfl _ _ 23 rfl w.heap.size 3 i0 (.int .i64 0) 1 8 Tryd.underlying23 hi hz0 hz1 hz2 rfl (by decide) _ _ _ rfl (hown.alloc _) ⟨w2.heap.size, 0, none⟩ 1 1 [.int .i64 z] rfl rfl ?c1 ?c2 ?c3 ?c4 ?c5 ?_)
      case c1 =>
        intro j u hj
        match j, hj with
        | 0, hj => simp at hj; subst hj; simp [Addr.add]
      case c2 => intro u hu; simp at hu; subst hu; rfl
      case c3 => unfold maxLen; omega
      case c4 => omega
      case c5 => simp; omega
      intro v' w5 hown2 hgrow _
      have hown3 := owns_succ hown2
      have HE : Hid (w5.ownsRow w.heap.size 3 1 v' (ls G (k + 1)).length ((ls G (k + 1)).map (Value.int .i64)) ∧ Below w.heap.size w w5) := by
        unfold Hid
        rw [HSC.out]
        exact ⟨hown3, (hbel.alloc hsz _).grown hgrow (by simp; omega) (fun j hj => (hown.lt j hj).1)⟩
      clear hown2 hown3 hgrow hown hbel HOW HBE HO1
      go_wp2_with fail
      go_roundw
      case rel => exact ⟨k + 1, by omega, by go_num, HE⟩
      case measure => simp [intOf]; omega
    · obtain rfl : k = d + 1 := by omega
      have hlt2 : ¬ ((d + 1 : Nat) : Int) ≤ (d : Int) := by omega
      have hlt3 : ¬ (d : Int) + 1 ≤ (d : Int) := by omega
      go_wp2_with fail
      go_ret
      exact ⟨_, rfl, by rw [HE0.out]; exact hI.out.1, hI.out.2⟩

end Go.Proofs.YtecaifjbmfianagDoor
