/- What package poly's slopes and addWithoutRoot answer; plain facts on the polynomial through points. -/
import Derived.Test.YtecaifjbmfianagGreatDoorPolF
import Derived.Test.YtecaifjbmfianagGreatDoorPls
namespace Go.Proofs.YtecaifjbmfianagGreatDoor
open Go.RowKit

theorem Cells.drewN {g o n : Nat} {f : Nat → Int} {W : World} (h : Cells g o n f W) (k : Nat) : Cells g o n f (W.drewN k) := ⟨h.cells, h.soft⟩

theorem ps_more' {p : Nat} {f : Nat → Int} (x : Int) (n m : Nat) (hnm : n ≤ m) (h : ∀ j, n ≤ j → j < m → (p : Int) ∣ f j) : (p : Int) ∣ Pol.ps f x m - Pol.ps f x n := by
  induction m with
  | zero => obtain rfl : n = 0 := by omega
            simp
  | succ m ih =>
    by_cases e : n = m + 1
    · subst e; simp
    · have := Int.dvd_add (ih (by omega) (fun j h1 h2 => h j h1 (by omega))) (Int.dvd_mul_of_dvd_left (c := x ^ m) (h m (by omega) (by omega)))
      simp only [Pol.ps]
      rwa [show Pol.ps f x m - Pol.ps f x n + f m * x ^ m = Pol.ps f x m + f m * x ^ m - Pol.ps f x n from by omega] at this

theorem evz_mk {p : Nat} (h3 : 3 ≤ p) (F : Nat → Int) (N : Nat) (x : Int) : evz p (Pol.mk p F N) x = Pol.ps F x N % (p : Int) := by
  unfold evz
  rw [Pol.mk_length]
  refine (Pol.emod_eq_iff (by omega)).2 ?_
  have h1 : (p : Int) ∣ Pol.ps (zat (Pol.mk p F N)) x (Pol.tp p F N) - Pol.ps F x (Pol.tp p F N) := Pol.ps_congr x _ (fun j hj => by
    rw [show zat (Pol.mk p F N) j = (Pol.mk p F N).getD j 0 from rfl, Pol.mk_at p F N j hj]
    exact Pol.emod_dvd p _)
  have h2 := ps_more' (p := p) (f := F) x (Pol.tp p F N) N (Pol.tp_le p F N) (fun j h1 h2 => Pol.emod_zero_iff.1 (Pol.tp_behind p F N j h1 h2))
  have := Int.dvd_sub h1 h2
  rwa [show ∀ a b c : Int, a - b - (c - b) = a - c from fun a b c => by omega] at this

/-- the list of the product without x - xs[k], of the first i -/
def vskl (p : Nat) (xs : List Int) (k i : Nat) : List Int := Pol.mk p (Pol.vsk (zat xs) k i) (i + 1)

theorem slope_eq {p : Nat} (h3 : 3 ≤ p) (xs : List Int) (k : Nat) (hk : k < xs.length) : evz p (pdv p (pvan p xs)) (zat xs k) = evz p (vskl p xs k xs.length) (zat xs k) := by
  have hl := (pvan_list h3 xs).1
  unfold pdv vskl
  rw [evz_mk h3, evz_mk h3, hl, Nat.add_sub_cancel]
  refine (Pol.emod_eq_iff (by omega)).2 ?_
  have h1 : (p : Int) ∣ Pol.ps (Pol.dv (Pol.cf (pvan p xs))) (zat xs k) xs.length - Pol.ps (Pol.dv (Pol.van (zat xs) xs.length)) (zat xs k) xs.length := Pol.ps_congr _ _ (fun j hj => by
    simp only [Pol.dv]
    have e : Pol.cf (pvan p xs) (j + 1) = vn p xs xs.length (j + 1) := (pvan_list h3 xs).2 (j + 1) (by omega)
    rw [e]
    obtain ⟨c, hc⟩ := Pol.emod_dvd p (Pol.van (zat xs) xs.length (j + 1))
    exact ⟨c * ((j : Int) + 1), by rw [show vn p xs xs.length (j + 1) = Pol.van (zat xs) xs.length (j + 1) % (p : Int) from rfl, ← Int.sub_mul, hc]; grind⟩)
  have h2 := Pol.slope (zat xs) k xs.length hk xs.length
  have h0 := Pol.vsk_zero (zat xs) k xs.length xs.length hk (Nat.le_refl _)
  rw [h0] at h2
  have h4 : Pol.ps (Pol.vsk (zat xs) k xs.length) (zat xs k) (xs.length + 1) = Pol.ps (Pol.vsk (zat xs) k xs.length) (zat xs k) xs.length := by
    rw [Pol.ps, h0]; simp
  rw [h4]
  rw [h2] at h1
  rwa [show Pol.ps (Pol.vsk (zat xs) k xs.length) (zat xs k) xs.length - (xs.length : Int) * (0 * zat xs k ^ xs.length) = Pol.ps (Pol.vsk (zat xs) k xs.length) (zat xs k) xs.length from by simp] at h1

/-- what comes of dividing by x - root, from the last place down -/
def sd (p : Nat) (zs : List Int) (root : Int) (n : Nat) : Nat → Int
  | 0 => 0
  | i + 1 => (zat zs (n - i) + sd p zs root n i * root % (p : Int)) % (p : Int)
theorem sd_bounds (p : Nat) (zs : List Int) (root : Int) (n i : Nat) (h3 : 3 ≤ p) : 0 ≤ sd p zs root n i ∧ sd p zs root n i < p := by
  cases i with
  | zero => simp only [sd]; omega
  | succ i => exact emod_bounds _ p h3

theorem sd_vsk {p : Nat} (h3 : 3 ≤ p) (xs : List Int) (k : Nat) (hk : k < xs.length) (i : Nat) (hi : i ≤ xs.length) : sd p (pvan p xs) (zat xs k) xs.length i = Pol.vsk (zat xs) k xs.length (xs.length - i) % (p : Int) := by
  induction i with
  | zero => rw [sd, Nat.sub_zero, Pol.vsk_zero _ _ _ _ hk (Nat.le_refl _)]; simp
  | succ i ih =>
    rw [sd, ih (by omega), (pvan_list h3 xs).2 (xs.length - i) (by omega)]
    have := Pol.vsk_down (zat xs) k xs.length (xs.length - (i + 1)) hk
    rw [show xs.length - (i + 1) + 1 = xs.length - i from by omega] at this
    rw [this]
    unfold vn
    rw [Int.mul_emod (Pol.vsk (zat xs) k xs.length (xs.length - i) % (p : Int)), Int.emod_emod_of_dvd _ (Int.dvd_refl _), ← Int.mul_emod, ← Int.add_emod]

def awf (p : Nat) (f : Nat → Int) (zs : List Int) (root times : Int) (n k : Nat) : Nat → Int := fun j => if n - k ≤ j ∧ j < n then (f j + sd p zs root n (n - j) * times % (p : Int)) % (p : Int) else f j
theorem awf_zero (p : Nat) (f : Nat → Int) (zs : List Int) (root times : Int) (n : Nat) : awf p f zs root times n 0 = f := by
  funext j; unfold awf; rw [if_neg (by omega)]
theorem awf_succ (p : Nat) (f : Nat → Int) (zs : List Int) (root times : Int) (n k : Nat) (hk : k < n) : up (awf p f zs root times n k) (n - 1 - k) ((f (n - 1 - k) + sd p zs root n (k + 1) * times % (p : Int)) % (p : Int)) = awf p f zs root times n (k + 1) := by
  funext j; unfold up awf
  by_cases h : j = n - 1 - k
  · rw [if_pos h, if_pos (by omega), h, show n - (n - 1 - k) = k + 1 from by omega]
  · rw [if_neg h]
    by_cases h2 : n - k ≤ j ∧ j < n
    · rw [if_pos h2, if_pos (by omega)]
    · rw [if_neg h2, if_neg (by omega)]
theorem awf_at (p : Nat) (f : Nat → Int) (zs : List Int) (root times : Int) (n k j : Nat) (h : j < n - k) : awf p f zs root times n k j = f j := by unfold awf; rw [if_neg (by omega)]

set_option maxHeartbeats 4000000 in
theorem awr_any (p b g n c1 c2 : Nat) (a : Option Addr) (f : Nat → Int) (zs : List Int) (root times : Int) (w : World) (h3 : 3 ≤ p) (hm : p ≤ 2147483647) (hp : w.cell? ⟨b, 0, none⟩ = some (.int .i64 p)) (hbg : b ≠ g)
    (hn : n + 1 = zs.length) (hnl : n ≤ 281474976710655) (hf : ∀ j, j < n → 0 ≤ f j ∧ f j < p) (hz : Fits zs) (hx1 : -9223372036854775808 ≤ root) (hx2 : root ≤ 9223372036854775807) (ht1 : -9223372036854775808 ≤ times) (ht2 : times ≤ 9223372036854775807)
    (hC : Cells g 0 n f w) (hr : RowP (· ≠ g) w a zs) :
    Calls Tryz.prog 33 #[.pointer (some ⟨b, 0, none⟩), .slice (some ⟨g, 0, none⟩) n c1, .slice a zs.length c2, .int .i64 root, .int .i64 times] w fun e w' =>
      e = .returned (.tuple #[]) ∧ Cells g 0 n (awf p f zs root times n n) w' ∧ Only g w w' := by
  have HF := hid hf
  have HZ := hid hz
  have HR := hid hr
  have HC0 := hid hC
  have HN := hid hn
  clear hf hz hr hC hn
  go_enter Tryz.func33, Tryz.ntmps33
  go_wp2_with fail
  go_loopw [10, 15] (fun pv iv wr => ∃ (k : Nat), k ≤ n ∧ iv = .int .i64 k ∧ pv = .int .i64 (sd p zs root n k) ∧ Hid (Cells g 0 n (awf p f zs root times n k) wr) ∧ Hid (Only g w wr))
    (fun _ iv _ => n - (intOf iv).toNat)
  case atStart => exact ⟨0, Nat.zero_le _, rfl, rfl, by rw [awf_zero]; exact HC0, Only.refl _ _⟩
  case round =>
    obtain ⟨k, hk, rfl, rfl, hout, honly⟩ := hrel
    by_cases hlt : k < n
    · have hlt2 : (k : Int) < (n : Int) := by omega
      have HS := hid (awf_succ p f zs root times n k hlt)
      have HSD : Hid ((zat zs (n - k) + sd p zs root n k * root % (p : Int)) % (p : Int) = sd p zs root n (k + 1)) := rfl
      obtain ⟨i, hi⟩ : ∃ i, i = n - 1 - k := ⟨_, rfl⟩
      rw [← hi] at HS
      rw [show n - k = i + 1 from by omega] at HSD
      have e1 : (n : Int) - 1 - (k : Int) = (i : Int) := by omega
      have e2 : (i : Int) < (n : Int) := by omega
      have e3 : (i : Int) + 1 < (zs.length : Int) := by have := HN.out; omega
      have e4 : ((i : Int) + 1).toNat = i + 1 := by omega
      have hin : i < n := by omega
      have hi1 : i + 1 < zs.length := by have := HN.out; omega
      obtain ⟨bl, ol, rfl, hbl, hcl⟩ := HR.out (i + 1) hi1
      have hcl2 := (honly.out.cell (p := ⟨bl, ol + (i + 1), none⟩) hbl).trans hcl
      have hok := hout.out.cells i hin
      have hos := hout.out.soft i hin
      rw [Nat.zero_add] at hok hos
      rw [awf_at p f zs root times n k i (by omega)] at hok
      have hpc := (honly.out.cell (p := ⟨b, 0, none⟩) hbg).trans hp
      obtain ⟨hf1, hf2⟩ := HF.out i hin
      obtain ⟨hz1, hz2⟩ := HZ.out (i + 1) hi1
      obtain ⟨hs1, hs2⟩ := sd_bounds p zs root n k h3
      obtain ⟨hs3, hs4⟩ := sd_bounds p zs root n (k + 1) h3
      obtain ⟨hb1, hb2⟩ := emod_bounds (sd p zs root n k * root) p h3
      obtain ⟨hb3, hb4⟩ := emod_bounds (sd p zs root n (k + 1) * times) p h3
      have HM1 : Hid (∀ w1 : World, w1.cell? ⟨b, 0, none⟩ = some (.int .i64 p) → Calls Tryz.prog 34 #[.pointer (some ⟨b, 0, none⟩), .int .i64 (sd p zs root n k), .int .i64 root] w1 fun e w' => e = .returned (.int .i64 (sd p zs root n k * root % p)) ∧ w' = w1) :=
        fun w1 h => mul_any p b _ _ w1 h3 hm h (by omega) (by omega) hx1 hx2
      have HA1 : Hid (∀ w1 : World, w1.cell? ⟨b, 0, none⟩ = some (.int .i64 p) → Calls Tryz.prog 14 #[.pointer (some ⟨b, 0, none⟩), .int .i64 (zat zs (i + 1)), .int .i64 (sd p zs root n k * root % (p : Int))] w1 fun e w' => e = .returned (.int .i64 ((zat zs (i + 1) + sd p zs root n k * root % (p : Int)) % p)) ∧ w' = w1) :=
        fun w1 h => add_any p b _ _ w1 h3 hm h hz1 hz2 (by omega) (by omega)
      rw [HSD.out] at HA1
      have HM2 : Hid (∀ w1 : World, w1.cell? ⟨b, 0, none⟩ = some (.int .i64 p) → Calls Tryz.prog 34 #[.pointer (some ⟨b, 0, none⟩), .int .i64 (sd p zs root n (k + 1)), .int .i64 times] w1 fun e w' => e = .returned (.int .i64 (sd p zs root n (k + 1) * times % p)) ∧ w' = w1) :=
        fun w1 h => mul_any p b _ _ w1 h3 hm h (by omega) (by omega) ht1 ht2
      have HA2 : Hid (∀ w1 : World, w1.cell? ⟨b, 0, none⟩ = some (.int .i64 p) → Calls Tryz.prog 14 #[.pointer (some ⟨b, 0, none⟩), .int .i64 (f i), .int .i64 (sd p zs root n (k + 1) * times % (p : Int))] w1 fun e w' => e = .returned (.int .i64 ((f i + sd p zs root n (k + 1) * times % (p : Int)) % p)) ∧ w' = w1) :=
        fun w1 h => add_any p b _ _ w1 h3 hm h (by omega) (by omega) (by omega) (by omega)
      have HC : Hid (∀ m : Nat, Cells g 0 n (awf p f zs root times n (k + 1)) ((wr.drewN m).setCell ⟨g, i, none⟩ (.int .i64 ((f i + sd p zs root n (k + 1) * times % (p : Int)) % (p : Int))))) := fun m => by
        have := (hout.out.drewN m).set ((f i + sd p zs root n (k + 1) * times % (p : Int)) % (p : Int)) hin
        rw [HS.out, Nat.zero_add] at this
        exact this
      have HB : Hid (∀ m : Nat, Only g w ((wr.drewN m).setCell ⟨g, i, none⟩ (.int .i64 ((f i + sd p zs root n (k + 1) * times % (p : Int)) % (p : Int))))) := fun m => (honly.out.drewN m).setCell rfl _
      clear HS HSD hi hcl
      generalize (f i + sd p zs root n (k + 1) * times % (p : Int)) % (p : Int) = z at *
      generalize sd p zs root n (k + 1) * times % (p : Int) = yt at *
      generalize hsn : sd p zs root n (k + 1) = sn at *
      generalize sd p zs root n k * root % (p : Int) = yx at *
      generalize sd p zs root n k = s0 at *
      generalize f i = fi at *
      generalize zat zs (i + 1) = zi at *
      have HSN := hid hsn
      clear hsn
      go_wp2_with fail
      go_quiet (first
        | (go_at_call 34; exact Calls.quiet_of_same (HM1.out _ hpc))
        | (go_at_call 14; exact Calls.quiet_of_same (HA1.out _ hpc)))
      go_wp2_with fail
      go_region_with (first
        | (go_at_call 34; refine (HM2.out _ ?_).mono ?_; exact hpc; rintro e w1 ⟨rfl, rfl⟩)
        | (go_at_call 14; refine (HA2.out _ ?_).mono ?_; exact hpc; rintro e w1 ⟨rfl, rfl⟩))
      all_goals
        go_wp2_with fail
        go_roundw
        case rel => exact ⟨k + 1, by omega, by go_num, by rw [HSN.out], (HC.out nq).drew, (HB.out nq).drew⟩
        case measure => simp [intOf]; omega
    · have hlt2 : ¬ (k : Int) < (n : Int) := by omega
      obtain rfl : k = n := by omega
      go_wp2_with fail
      go_end0
      exact ⟨rfl, hout.out, honly.out⟩

set_option maxHeartbeats 2000000 in
theorem slopes_any (p b c1 c2 : Nat) (a1 a2 : Option Addr) (zs xs : List Int) (w : World) (h3 : 3 ≤ p) (hm : p ≤ 2147483647) (hp : w.cell? ⟨b, 0, none⟩ = some (.int .i64 p))
    (hn : zs.length ≤ 17592186044416) (hn2 : xs.length ≤ 17592186044416) (hf1 : Fits zs) (hf2 : Fits xs) (hr1 : RowB w.heap.size w a1 zs) (hr2 : RowB w.heap.size w a2 xs) :
    Calls Tryz.prog 32 #[.pointer (some ⟨b, 0, none⟩), .slice a1 zs.length c1, .slice a2 xs.length c2] w fun e w' =>
      e = .returned (.slice (some ⟨w.heap.size + 1, 0, none⟩) xs.length xs.length) ∧ Cells (w.heap.size + 1) 0 xs.length (fun j => evz p (pdv p zs) (zat xs j)) w' ∧ Below w.heap.size w w' ∧ w.heap.size + 1 < w'.heap.size := by
  have hb : b < w.heap.size := heap_lt hp
  have HD := hid (derive_any p b c1 (· < w.heap.size) a1 zs w h3 hm hp hn hf1 hr1 (fun _ h => h))
  have HF := hid hf2
  have HR := hid hr2
  have hpl : (pdv p zs).length ≤ 17592186044416 := by have := Pol.tp_le p (Pol.dv (Pol.cf zs)) (zs.length - 1); rw [pdv, Pol.mk_length]; omega
  have HPF : Hid (Fits (pdv p zs)) := can_fits hm (Pol.mk_can (by omega) _ _)
  clear hf1 hf2 hr1 hr2
  generalize pdv p zs = ds at *
  have hmk := fun n h1 h2 w => run_make_row' (P := Tryz.prog) 23 3 (.int .i64 0) 8 Tryz.underlying23 Tryz.infoInt rfl .i64 .i64 n h1 h2 w
  have hmk2 := hmk xs.length (by omega) (by omega)
  clear hmk
  go_enter Tryz.func32, Tryz.ntmps32
  go_wp2_with fail
  refine HD.out.mono ?_
  rintro e w1 ⟨cd, rfl, _, hcd, hb1, hs1⟩
  have HCD := hid hcd
  have HB1 := hid hb1
  clear hcd hb1 HD
  go_wp2_with fail
  go_loopw [19] (fun iv wr => ∃ (k : Nat) (o : Nat → Int), k ≤ xs.length ∧ iv = .int .i64 k ∧ Hid (Cells (w.heap.size + 1) 0 xs.length o wr) ∧ Hid (∀ j, j < k → o j = evz p ds (zat xs j)) ∧ Hid (Cells w.heap.size 0 ds.length (zat ds) wr) ∧ Hid (Below w.heap.size w wr) ∧ w.heap.size + 1 < wr.heap.size)
    (fun iv _ => xs.length - (intOf iv).toNat)
  case atStart =>
    refine ⟨0, fun _ => 0, Nat.zero_le _, rfl, ⟨fun j hj => ?_, fun j hj => ?_⟩, fun j hj => by omega, HCD.out.below ((Below.refl w1.heap.size w1).alloc (Nat.le_refl _) _) (by omega), HB1.out.trans ((Below.refl w.heap.size w1).alloc (by omega) _), by simp; omega⟩
    · rw [← hs1, World.cell?_alloc_at _ _ _ _ (by simp)]
      simp [madeCells, hj, Nat.mod_one]
    · rw [← hs1]; simp
  case round =>
    obtain ⟨k, o, hk, rfl, hout, hoj, hcd, hbel, hsz⟩ := hrel
    by_cases hlt : k < xs.length
    · have hlt2 : (k : Int) < (xs.length : Int) := by omega
      obtain ⟨bl, ol, rfl, hbl, hcl⟩ := HR.out k hlt
      have hcl2 := (hbel.out.cell (p := ⟨bl, ol + k, none⟩) hbl).trans hcl
      have hok := hout.out.cells k hlt
      have hos := hout.out.soft k hlt
      rw [Nat.zero_add] at hok hos
      have hpc := (hbel.out.cell (p := ⟨b, 0, none⟩) hb).trans hp
      obtain ⟨hx1, hx2⟩ := HF.out k hlt
      have HE := hid (eval_any p b cd (· = w.heap.size) (some ⟨w.heap.size, 0, none⟩) ds (zat xs k) wr h3 hm hpc (by omega) HPF.out hx1 hx2 (fun j hj => ⟨w.heap.size, 0, rfl, rfl, hcd.out.cells j hj⟩))
      have HC : Hid (∀ m : Nat, Cells (w.heap.size + 1) 0 xs.length (up o k (evz p ds (zat xs k))) ((wr.drewN m).setCell ⟨w.heap.size + 1, k, none⟩ (.int .i64 (evz p ds (zat xs k))))) := fun m => by
        have := (hout.out.drewN m).set (evz p ds (zat xs k)) hlt
        rw [Nat.zero_add] at this
        exact this
      have HO : Hid (∀ m : Nat, Only (w.heap.size + 1) wr ((wr.drewN m).setCell ⟨w.heap.size + 1, k, none⟩ (.int .i64 (evz p ds (zat xs k))))) := fun m => ((Only.refl (w.heap.size + 1) wr).drewN m).setCell (p := ⟨w.heap.size + 1, k, none⟩) rfl _
      have HJ : Hid (∀ j, j < k + 1 → up o k (evz p ds (zat xs k)) j = evz p ds (zat xs j)) := fun j hj => by
        unfold up
        by_cases hjk : j = k
        · rw [if_pos hjk, hjk]
        · rw [if_neg hjk]; exact hoj.out j (by omega)
      clear hcl
      generalize evz p ds (zat xs k) = ev at *
      generalize zat xs k = x at *
      go_wp2_with fail
      refine HE.out.mono ?_
      rintro e w2 ⟨rfl, m, rfl⟩
      go_wp2_with fail
      go_roundw
      case rel => exact ⟨k + 1, _, by omega, by go_num, HC.out m, HJ, hcd.out.only (HO.out m) (by omega), hbel.out.trans ((HO.out m).below (by omega)), by have := (HO.out m).size; omega⟩
      case measure => simp [intOf]; omega
    · have hlt2 : ¬ (k : Int) < (xs.length : Int) := by omega
      go_wp2_with fail
      go_ret
      exact ⟨rfl, hout.out.congr (fun j hj => hoj.out j (by omega)), hbel.out, hsz⟩

end Go.Proofs.YtecaifjbmfianagGreatDoor
