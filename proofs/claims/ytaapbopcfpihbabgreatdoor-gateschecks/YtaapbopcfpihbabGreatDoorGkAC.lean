/- What package poly's slopes and addWithoutRoot answer; plain facts on the polynomial through points. slices.Sort and slices.Compact at lists of numbers, by the library's own contracts: laid for this program. attestref1.Unlike: whether all of a list are unlike, as elements. -/
import Derived.Test.YtaapbopcfpihbabGreatDoorGkAB
import Derived.Test.YtaapbopcfpihbabGreatDoorPls
import Derived.Shelf.Sort.Plain
import Derived.Shelf.Slices.CompactI
import Derived.Test.YtaapbopcfpihbabGreatDoorProg
import Derived.Deep.QuietTactic
import Derived.BigQuiet
namespace Go.Proofs.YtaapbopcfpihbabGreatDoor
open Go.RowKit

theorem Cells.drewN {g o n : Nat} {f : Nat → Int} {W : World} (h : Cells g o n f W) (k : Nat) : Cells g o n f (W.drewN k) := ⟨h.cells, h.soft⟩

theorem ps_more' {p : Nat} {f : Nat → Int} (x : Int) (n m : Nat) (hnm : n ≤ m) (h : ∀ j, n ≤ j → j < m → (p : Int) ∣ f j) : (p : Int) ∣ Pol.ps f x m - Pol.ps f x n := by
  induction m with
  | zero => obtain rfl : n = 0 := by omega
            simp
  | succ m ih =>
    by_cases e : n = m + 1
    · subst e; simp
    · have := Int.dvd_add (ih (by omega) (fun j h1 h2 => h j h1 (by omega))) (Int.dvd_mul_of_dvd_left (c := x ^ m) (h m (by omega) (by omega)))
      simp only [Pol.ps]
      rwa [show Pol.ps f x m - Pol.ps f x n + f m * x ^ m = Pol.ps f x m + f m * x ^ m - Pol.ps f x n from by omega] at this

theorem evz_mk {p : Nat} (h3 : 3 ≤ p) (F : Nat → Int) (N : Nat) (x : Int) : evz p (Pol.mk p F N) x = Pol.ps F x N % (p : Int) := by
  unfold evz
  rw [Pol.mk_length]
  refine (Pol.emod_eq_iff (by omega)).2 ?_
  have h1 : (p : Int) ∣ Pol.ps (zat (Pol.mk p F N)) x (Pol.tp p F N) - Pol.ps F x (Pol.tp p F N) := Pol.ps_congr x _ (fun j hj => by
    rw [show zat (Pol.mk p F N) j = (Pol.mk p F N).getD j 0 from rfl, Pol.mk_at p F N j hj]
    exact Pol.emod_dvd p _)
  have h2 := ps_more' (p := p) (f := F) x (Pol.tp p F N) N (Pol.tp_le p F N) (fun j h1 h2 => Pol.emod_zero_iff.1 (Pol.tp_behind p F N j h1 h2))
  have := Int.dvd_sub h1 h2
  rwa [show ∀ a b c : Int, a - b - (c - b) = a - c from fun a b c => by omega] at this

/-- the list of the product without x - xs[k], of the first i -/
def vskl (p : Nat) (xs : List Int) (k i : Nat) : List Int := Pol.mk p (Pol.vsk (zat xs) k i) (i + 1)

theorem slope_eq {p : Nat} (h3 : 3 ≤ p) (xs : List Int) (k : Nat) (hk : k < xs.length) : evz p (pdv p (pvan p xs)) (zat xs k) = evz p (vskl p xs k xs.length) (zat xs k) := by
  have hl := (pvan_list h3 xs).1
  unfold pdv vskl
  rw [evz_mk h3, evz_mk h3, hl, Nat.add_sub_cancel]
  refine (Pol.emod_eq_iff (by omega)).2 ?_
  have h1 : (p : Int) ∣ Pol.ps (Pol.dv (Pol.cf (pvan p xs))) (zat xs k) xs.length - Pol.ps (Pol.dv (Pol.van (zat xs) xs.length)) (zat xs k) xs.length := Pol.ps_congr _ _ (fun j hj => by
    simp only [Pol.dv]
    have e : Pol.cf (pvan p xs) (j + 1) = vn p xs xs.length (j + 1) := (pvan_list h3 xs).2 (j + 1) (by omega)
    rw [e]
    obtain ⟨c, hc⟩ := Pol.emod_dvd p (Pol.van (zat xs) xs.length (j + 1))
    exact ⟨c * ((j : Int) + 1), by rw [show vn p xs xs.length (j + 1) = Pol.van (zat xs) xs.length (j + 1) % (p : Int) from rfl, ← Int.sub_mul, hc]; grind⟩)
  have h2 := Pol.slope (zat xs) k xs.length hk xs.length
  have h0 := Pol.vsk_zero (zat xs) k xs.length xs.length hk (Nat.le_refl _)
  rw [h0] at h2
  have h4 : Pol.ps (Pol.vsk (zat xs) k xs.length) (zat xs k) (xs.length + 1) = Pol.ps (Pol.vsk (zat xs) k xs.length) (zat xs k) xs.length := by
    rw [Pol.ps, h0]; simp
  rw [h4]
  rw [h2] at h1
  rwa [show Pol.ps (Pol.vsk (zat xs) k xs.length) (zat xs k) xs.length - (xs.length : Int) * (0 * zat xs k ^ xs.length) = Pol.ps (Pol.vsk (zat xs) k xs.length) (zat xs k) xs.length from by simp] at h1

/-- what comes of dividing by x - root, from the last place down -/
def sd (p : Nat) (zs : List Int) (root : Int) (n : Nat) : Nat → Int
  | 0 => 0
  | i + 1 => (zat zs (n - i) + sd p zs root n i * root % (p : Int)) % (p : Int)
theorem sd_bounds (p : Nat) (zs : List Int) (root : Int) (n i : Nat) (h3 : 3 ≤ p) : 0 ≤ sd p zs root n i ∧ sd p zs root n i < p := by
  cases i with
  | zero => simp only [sd]; omega
  | succ i => exact emod_bounds _ p h3

theorem sd_vsk {p : Nat} (h3 : 3 ≤ p) (xs : List Int) (k : Nat) (hk : k < xs.length) (i : Nat) (hi : i ≤ xs.length) : sd p (pvan p xs) (zat xs k) xs.length i = Pol.vsk (zat xs) k xs.length (xs.length - i) % (p : Int) := by
  induction i with
  | zero => rw [sd, Nat.sub_zero, Pol.vsk_zero _ _ _ _ hk (Nat.le_refl _)]; simp
  | succ i ih =>
    rw [sd, ih (by omega), (pvan_list h3 xs).2 (xs.length - i) (by omega)]
    have := Pol.vsk_down (zat xs) k xs.length (xs.length - (i + 1)) hk
    rw [show xs.length - (i + 1) + 1 = xs.length - i from by omega] at this
    rw [this]
    unfold vn
    rw [Int.mul_emod (Pol.vsk (zat xs) k xs.length (xs.length - i) % (p : Int)), Int.emod_emod_of_dvd _ (Int.dvd_refl _), ← Int.mul_emod, ← Int.add_emod]

def awf (p : Nat) (f : Nat → Int) (zs : List Int) (root times : Int) (n k : Nat) : Nat → Int := fun j => if n - k ≤ j ∧ j < n then (f j + sd p zs root n (n - j) * times % (p : Int)) % (p : Int) else f j
theorem awf_zero (p : Nat) (f : Nat → Int) (zs : List Int) (root times : Int) (n : Nat) : awf p f zs root times n 0 = f := by
  funext j; unfold awf; rw [if_neg (by omega)]
theorem awf_succ (p : Nat) (f : Nat → Int) (zs : List Int) (root times : Int) (n k : Nat) (hk : k < n) : up (awf p f zs root times n k) (n - 1 - k) ((f (n - 1 - k) + sd p zs root n (k + 1) * times % (p : Int)) % (p : Int)) = awf p f zs root times n (k + 1) := by
  funext j; unfold up awf
  by_cases h : j = n - 1 - k
  · rw [if_pos h, if_pos (by omega), h, show n - (n - 1 - k) = k + 1 from by omega]
  · rw [if_neg h]
    by_cases h2 : n - k ≤ j ∧ j < n
    · rw [if_pos h2, if_pos (by omega)]
    · rw [if_neg h2, if_neg (by omega)]
theorem awf_at (p : Nat) (f : Nat → Int) (zs : List Int) (root times : Int) (n k j : Nat) (h : j < n - k) : awf p f zs root times n k j = f j := by unfold awf; rw [if_neg (by omega)]

set_option maxHeartbeats 4000000 in
theorem awr_any (p b g n c1 c2 : Nat) (a : Option Addr) (f : Nat → Int) (zs : List Int) (root times : Int) (w : World) (h3 : 3 ≤ p) (hm : p ≤ 2147483647) (hp : w.cell? ⟨b, 0, none⟩ = some (.int .i64 p)) (hbg : b ≠ g)
    (hn : n + 1 = zs.length) (hnl : n ≤ 281474976710655) (hf : ∀ j, j < n → 0 ≤ f j ∧ f j < p) (hz : Fits zs) (hx1 : -9223372036854775808 ≤ root) (hx2 : root ≤ 9223372036854775807) (ht1 : -9223372036854775808 ≤ times) (ht2 : times ≤ 9223372036854775807)
    (hC : Cells g 0 n f w) (hr : RowP (· ≠ g) w a zs) :
    Calls Tryz.prog 118 #[.pointer (some ⟨b, 0, none⟩), .slice (some ⟨g, 0, none⟩) n c1, .slice a zs.length c2, .int .i64 root, .int .i64 times] w fun e w' =>
      e = .returned (.tuple #[]) ∧ Cells g 0 n (awf p f zs root times n n) w' ∧ Only g w w' := by
  have HF := hid hf
  have HZ := hid hz
  have HR := hid hr
  have HC0 := hid hC
  have HN := hid hn
  clear hf hz hr hC hn
  go_enter Tryz.func118, Tryz.ntmps118
  go_wp2_with fail
  go_loopw [10, 15] (fun pv iv wr => ∃ (k : Nat), k ≤ n ∧ iv = .int .i64 k ∧ pv = .int .i64 (sd p zs root n k) ∧ Hid (Cells g 0 n (awf p f zs root times n k) wr) ∧ Hid (Only g w wr))
    (fun _ iv _ => n - (intOf iv).toNat)
  case atStart => exact ⟨0, Nat.zero_le _, rfl, rfl, by rw [awf_zero]; exact HC0, Only.refl _ _⟩
  case round =>
    obtain ⟨k, hk, rfl, rfl, hout, honly⟩ := hrel
    by_cases hlt : k < n
    · have hlt2 : (k : Int) < (n : Int) := by omega
      have HS := hid (awf_succ p f zs root times n k hlt)
      have HSD : Hid ((zat zs (n - k) + sd p zs root n k * root % (p : Int)) % (p : Int) = sd p zs root n (k + 1)) := rfl
      obtain ⟨i, hi⟩ : ∃ i, i = n - 1 - k := ⟨_, rfl⟩
      rw [← hi] at HS
      rw [show n - k = i + 1 from by omega] at HSD
      have e1 : (n : Int) - 1 - (k : Int) = (i : Int) := by omega
      have e2 : (i : Int) < (n : Int) := by omega
      have e3 : (i : Int) + 1 < (zs.length : Int) := by have := HN.out; omega
      have e4 : ((i : Int) + 1).toNat = i + 1 := by omega
      have hin : i < n := by omega
      have hi1 : i + 1 < zs.length := by have := HN.out; omega
      obtain ⟨bl, ol, rfl, hbl, hcl⟩ := HR.out (i + 1) hi1
      have hcl2 := (honly.out.cell (p := ⟨bl, ol + (i + 1), none⟩) hbl).trans hcl
      have hok := hout.out.cells i hin
      have hos := hout.out.soft i hin
      rw [Nat.zero_add] at hok hos
      rw [awf_at p f zs root times n k i (by omega)] at hok
      have hpc := (honly.out.cell (p := ⟨b, 0, none⟩) hbg).trans hp
      obtain ⟨hf1, hf2⟩ := HF.out i hin
      obtain ⟨hz1, hz2⟩ := HZ.out (i + 1) hi1
      obtain ⟨hs1, hs2⟩ := sd_bounds p zs root n k h3
      obtain ⟨hs3, hs4⟩ := sd_bounds p zs root n (k + 1) h3
      obtain ⟨hb1, hb2⟩ := emod_bounds (sd p zs root n k * root) p h3
      obtain ⟨hb3, hb4⟩ := emod_bounds (sd p zs root n (k + 1) * times) p h3
      have HM1 : Hid (∀ w1 : World, w1.cell? ⟨b, 0, none⟩ = some (.int .i64 p) → Calls Tryz.prog 72 #[.pointer (some ⟨b, 0, none⟩), .int .i64 (sd p zs root n k), .int .i64 root] w1 fun e w' => e = .returned (.int .i64 (sd p zs root n k * root % p)) ∧ w' = w1) :=
        fun w1 h => mul_any p b _ _ w1 h3 hm h (by omega) (by omega) hx1 hx2
      have HA1 : Hid (∀ w1 : World, w1.cell? ⟨b, 0, none⟩ = some (.int .i64 p) → Calls Tryz.prog 53 #[.pointer (some ⟨b, 0, none⟩), .int .i64 (zat zs (i + 1)), .int .i64 (sd p zs root n k * root % (p : Int))] w1 fun e w' => e = .returned (.int .i64 ((zat zs (i + 1) + sd p zs root n k * root % (p : Int)) % p)) ∧ w' = w1) :=
        fun w1 h => add_any p b _ _ w1 h3 hm h hz1 hz2 (by omega) (by omega)
      rw [HSD.out] at HA1
      have HM2 : Hid (∀ w1 : World, w1.cell? ⟨b, 0, none⟩ = some (.int .i64 p) → Calls Tryz.prog 72 #[.pointer (some ⟨b, 0, none⟩), .int .i64 (sd p zs root n (k + 1)), .int .i64 times] w1 fun e w' => e = .returned (.int .i64 (sd p zs root n (k + 1) * times % p)) ∧ w' = w1) :=
        fun w1 h => mul_any p b _ _ w1 h3 hm h (by omega) (by omega) ht1 ht2
      have HA2 : Hid (∀ w1 : World, w1.cell? ⟨b, 0, none⟩ = some (.int .i64 p) → Calls Tryz.prog 53 #[.pointer (some ⟨b, 0, none⟩), .int .i64 (f i), .int .i64 (sd p zs root n (k + 1) * times % (p : Int))] w1 fun e w' => e = .returned (.int .i64 ((f i + sd p zs root n (k + 1) * times % (p : Int)) % p)) ∧ w' = w1) :=
        fun w1 h => add_any p b _ _ w1 h3 hm h (by omega) (by omega) (by omega) (by omega)
      have HC : Hid (∀ m : Nat, Cells g 0 n (awf p f zs root times n (k + 1)) ((wr.drewN m).setCell ⟨g, i, none⟩ (.int .i64 ((f i + sd p zs root n (k + 1) * times % (p : Int)) % (p : Int))))) := fun m => by
        have := (hout.out.drewN m).set ((f i + sd p zs root n (k + 1) * times % (p : Int)) % (p : Int)) hin
        rw [HS.out, Nat.zero_add] at this
        exact this
      have HB : Hid (∀ m : Nat, Only g w ((wr.drewN m).setCell ⟨g, i, none⟩ (.int .i64 ((f i + sd p zs root n (k + 1) * times % (p : Int)) % (p : Int))))) := fun m => (honly.out.drewN m).setCell rfl _
      clear HS HSD hi hcl
      generalize (f i + sd p zs root n (k + 1) * times % (p : Int)) % (p : Int) = z at *
      generalize sd p zs root n (k + 1) * times % (p : Int) = yt at *
      generalize hsn : sd p zs root n (k + 1) = sn at *
      generalize sd p zs root n k * root % (p : Int) = yx at *
      generalize sd p zs root n k = s0 at *
      generalize f i = fi at *
      generalize zat zs (i + 1) = zi at *
      have HSN := hid hsn
      clear hsn
      go_wp2_with fail
      go_quiet (first
        | (go_at_call 72; exact Calls.quiet_of_same (HM1.out _ hpc))
        | (go_at_call 53; exact Calls.quiet_of_same (HA1.out _ hpc)))
      go_wp2_with fail
      go_region_with (first
        | (go_at_call 72; refine (HM2.out _ ?_).mono ?_; exact hpc; rintro e w1 ⟨rfl, rfl⟩)
        | (go_at_call 53; refine (HA2.out _ ?_).mono ?_; exact hpc; rintro e w1 ⟨rfl, rfl⟩))
      all_goals
        go_wp2_with fail
        go_roundw
        case rel => exact ⟨k + 1, by omega, by go_num, by rw [HSN.out], (HC.out nq).drew, (HB.out nq).drew⟩
        case measure => simp [intOf]; omega
    · have hlt2 : ¬ (k : Int) < (n : Int) := by omega
      obtain rfl : k = n := by omega
      go_wp2_with fail
      go_end0
      exact ⟨rfl, hout.out, honly.out⟩

set_option maxHeartbeats 2000000 in
theorem slopes_any (p b c1 c2 : Nat) (a1 a2 : Option Addr) (zs xs : List Int) (w : World) (h3 : 3 ≤ p) (hm : p ≤ 2147483647) (hp : w.cell? ⟨b, 0, none⟩ = some (.int .i64 p))
    (hn : zs.length ≤ 17592186044416) (hn2 : xs.length ≤ 17592186044416) (hf1 : Fits zs) (hf2 : Fits xs) (hr1 : RowB w.heap.size w a1 zs) (hr2 : RowB w.heap.size w a2 xs) :
    Calls Tryz.prog 117 #[.pointer (some ⟨b, 0, none⟩), .slice a1 zs.length c1, .slice a2 xs.length c2] w fun e w' =>
      e = .returned (.slice (some ⟨w.heap.size + 1, 0, none⟩) xs.length xs.length) ∧ Cells (w.heap.size + 1) 0 xs.length (fun j => evz p (pdv p zs) (zat xs j)) w' ∧ Below w.heap.size w w' ∧ w.heap.size + 1 < w'.heap.size := by
  have hb : b < w.heap.size := heap_lt hp
  have HD := hid (derive_any p b c1 (· < w.heap.size) a1 zs w h3 hm hp hn hf1 hr1 (fun _ h => h))
  have HF := hid hf2
  have HR := hid hr2
  have hpl : (pdv p zs).length ≤ 17592186044416 := by have := Pol.tp_le p (Pol.dv (Pol.cf zs)) (zs.length - 1); rw [pdv, Pol.mk_length]; omega
  have HPF : Hid (Fits (pdv p zs)) := can_fits hm (Pol.mk_can (by omega) _ _)
  clear hf1 hf2 hr1 hr2
  generalize pdv p zs = ds at *
  have hmk := fun n h1 h2 w => run_make_row' (P := Tryz.prog) 25 3 (.int .i64 0) 8 Tryz.underlying25 Tryz.infoInt rfl .i64 .i64 n h1 h2 w
  have hmk2 := hmk xs.length (by omega) (by omega)
  clear hmk
  go_enter Tryz.func117, Tryz.ntmps117
  go_wp2_with fail
  refine HD.out.mono ?_
  rintro e w1 ⟨cd, rfl, _, hcd, hb1, hs1⟩
  have HCD := hid hcd
  have HB1 := hid hb1
  clear hcd hb1 HD
  go_wp2_with fail
  go_loopw [19] (fun iv wr => ∃ (k : Nat) (o : Nat → Int), k ≤ xs.length ∧ iv = .int .i64 k ∧ Hid (Cells (w.heap.size + 1) 0 xs.length o wr) ∧ Hid (∀ j, j < k → o j = evz p ds (zat xs j)) ∧ Hid (Cells w.heap.size 0 ds.length (zat ds) wr) ∧ Hid (Below w.heap.size w wr) ∧ w.heap.size + 1 < wr.heap.size)
    (fun iv _ => xs.length - (intOf iv).toNat)
  case atStart =>
    refine ⟨0, fun _ => 0, Nat.zero_le _, rfl, ⟨fun j hj => ?_, fun j hj => ?_⟩, fun j hj => by omega, HCD.out.below ((Below.refl w1.heap.size w1).alloc (Nat.le_refl _) _) (by omega), HB1.out.trans ((Below.refl w.heap.size w1).alloc (by omega) _), by simp; omega⟩
    · rw [← hs1, World.cell?_alloc_at _ _ _ _ (by simp)]
      simp [madeCells, hj, Nat.mod_one]
    · rw [← hs1]; simp
  case round =>
    obtain ⟨k, o, hk, rfl, hout, hoj, hcd, hbel, hsz⟩ := hrel
    by_cases hlt : k < xs.length
    · have hlt2 : (k : Int) < (xs.length : Int) := by omega
      obtain ⟨bl, ol, rfl, hbl, hcl⟩ := HR.out k hlt
      have hcl2 := (hbel.out.cell (p := ⟨bl, ol + k, none⟩) hbl).trans hcl
      have hok := hout.out.cells k hlt
      have hos := hout.out.soft k hlt
      rw [Nat.zero_add] at hok hos
      have hpc := (hbel.out.cell (p := ⟨b, 0, none⟩) hb).trans hp
      obtain ⟨hx1, hx2⟩ := HF.out k hlt
      have HE := hid (eval_any p b cd (· = w.heap.size) (some ⟨w.heap.size, 0, none⟩) ds (zat xs k) wr h3 hm hpc (by omega) HPF.out hx1 hx2 (fun j hj => ⟨w.heap.size, 0, rfl, rfl, hcd.out.cells j hj⟩))
      have HC : Hid (∀ m : Nat, Cells (w.heap.size + 1) 0 xs.length (up o k (evz p ds (zat xs k))) ((wr.drewN m).setCell ⟨w.heap.size + 1, k, none⟩ (.int .i64 (evz p ds (zat xs k))))) := fun m => by
        have := (hout.out.drewN m).set (evz p ds (zat xs k)) hlt
        rw [Nat.zero_add] at this
        exact this
      have HO : Hid (∀ m : Nat, Only (w.heap.size + 1) wr ((wr.drewN m).setCell ⟨w.heap.size + 1, k, none⟩ (.int .i64 (evz p ds (zat xs k))))) := fun m => ((Only.refl (w.heap.size + 1) wr).drewN m).setCell (p := ⟨w.heap.size + 1, k, none⟩) rfl _
      have HJ : Hid (∀ j, j < k + 1 → up o k (evz p ds (zat xs k)) j = evz p ds (zat xs j)) := fun j hj => by
        unfold up
        by_cases hjk : j = k
        · rw [if_pos hjk, hjk]
        · rw [if_neg hjk]; exact hoj.out j (by omega)
      clear hcl
      generalize evz p ds (zat xs k) = ev at *
      generalize zat xs k = x at *
      go_wp2_with fail
      refine HE.out.mono ?_
      rintro e w2 ⟨rfl, m, rfl⟩
      go_wp2_with fail
      go_roundw
      case rel => exact ⟨k + 1, _, by omega, by go_num, HC.out m, HJ, hcd.out.only (HO.out m) (by omega), hbel.out.trans ((HO.out m).below (by omega)), by have := (HO.out m).size; omega⟩
      case measure => simp [intOf]; omega
    · have hlt2 : ¬ (k : Int) < (xs.length : Int) := by omega
      go_wp2_with fail
      go_ret
      exact ⟨rfl, hout.out.congr (fun j hj => hoj.out j (by omega)), hbel.out, hsz⟩

end Go.Proofs.YtaapbopcfpihbabGreatDoor

namespace Go.Proofs
open Go.Shelf

def Tryz.lays189_ren : Go.Shelf.Ren := ⟨fun | 189 => 143 | 125 => 107 | 257 => 153 | 128 => 135 | 129 => 136 | 294 => 156 | 295 => 157 | 296 => 158 | 297 => 159 | 298 => 160 | 299 => 161 | 216 => 162 | 300 => 163 | 301 => 164 | 328 => 165 | 329 => 166 | 330 => 167 | 331 => 168 | 332 => 169 | 215 => 170 | 343 => 171 | n => n, fun | 28 => 25 | 3 => 3 | 46 => 120 | 0 => 0 | 51 => 143 | 53 => 145 | 4 => 4 | 183 => 197 | 182 => 196 | 131 => 201 | 5 => 5 | 9 => 9 | 218 => 203 | 222 => 207 | 228 => 209 | 229 => 210 | n => n, fun | n => n⟩
theorem Tryz.lays189 : Go.Proofs.Lays.n189 Tryz.prog Tryz.lays189_ren := {
  mixed := by kernel_rfl
  f125 := Tryz.func107.trans (congrArg some (by kernel_rfl))
  f128 := Tryz.func135.trans (congrArg some (by kernel_rfl))
  f129 := Tryz.func136.trans (congrArg some (by kernel_rfl))
  f189 := Tryz.func143.trans (congrArg some (by kernel_rfl))
  f215 := Tryz.func170.trans (congrArg some (by kernel_rfl))
  f216 := Tryz.func162.trans (congrArg some (by kernel_rfl))
  f257 := Tryz.func153.trans (congrArg some (by kernel_rfl))
  f294 := Tryz.func156.trans (congrArg some (by kernel_rfl))
  f295 := Tryz.func157.trans (congrArg some (by kernel_rfl))
  f296 := Tryz.func158.trans (congrArg some (by kernel_rfl))
  f297 := Tryz.func159.trans (congrArg some (by kernel_rfl))
  f298 := Tryz.func160.trans (congrArg some (by kernel_rfl))
  f299 := Tryz.func161.trans (congrArg some (by kernel_rfl))
  f300 := Tryz.func163.trans (congrArg some (by kernel_rfl))
  f301 := Tryz.func164.trans (congrArg some (by kernel_rfl))
  f328 := Tryz.func165.trans (congrArg some (by kernel_rfl))
  f329 := Tryz.func166.trans (congrArg some (by kernel_rfl))
  f330 := Tryz.func167.trans (congrArg some (by kernel_rfl))
  f331 := Tryz.func168.trans (congrArg some (by kernel_rfl))
  f332 := Tryz.func169.trans (congrArg some (by kernel_rfl))
  f343 := Tryz.func171.trans (congrArg some (by kernel_rfl))
  t0 := Tryz.underlying0
  a0 := Tryz.isAgg0
  z0 := Tryz.sizeOf0
  v0 := Tryz.zeroValue0
  t3 := Tryz.underlying3
  a3 := Tryz.isAgg3
  z3 := Tryz.sizeOf3
  v3 := Tryz.zeroValue3
  t4 := Tryz.underlying4
  a4 := Tryz.isAgg4
  z4 := Tryz.sizeOf4
  v4 := Tryz.zeroValue4
  t5 := Tryz.underlying5
  a5 := Tryz.isAgg5
  z5 := Tryz.sizeOf5
  v5 := Tryz.zeroValue5
  t9 := Tryz.underlying9
  a9 := Tryz.isAgg9
  z9 := Tryz.sizeOf9
  v9 := Tryz.zeroValue9
  t28 := Tryz.underlying25
  a28 := Tryz.isAgg25
  z28 := Tryz.sizeOf25
  v28 := Tryz.zeroValue25
  t46 := Tryz.underlying120
  a46 := Tryz.isAgg120
  z46 := Tryz.sizeOf120
  v46 := Tryz.zeroValue120
  t51 := Tryz.underlying143
  a51 := Tryz.isAgg143
  z51 := Tryz.sizeOf143
  v51 := Tryz.zeroValue143
  t53 := Tryz.underlying145
  a53 := Tryz.isAgg145
  z53 := Tryz.sizeOf145
  v53 := Tryz.zeroValue145
  t131 := Tryz.underlying201
  a131 := Tryz.isAgg201
  z131 := Tryz.sizeOf201
  v131 := Tryz.zeroValue201
  t182 := Tryz.underlying196
  a182 := Tryz.isAgg196
  z182 := Tryz.sizeOf196
  v182 := Tryz.zeroValue196
  t183 := Tryz.underlying197
  a183 := Tryz.isAgg197
  z183 := Tryz.sizeOf197
  v183 := Tryz.zeroValue197
  t218 := Tryz.underlying203
  a218 := Tryz.isAgg203
  z218 := Tryz.sizeOf203
  v218 := Tryz.zeroValue203
  t222 := Tryz.underlying207
  a222 := Tryz.isAgg207
  z222 := Tryz.sizeOf207
  v222 := Tryz.zeroValue207
  t228 := Tryz.underlying209
  a228 := Tryz.isAgg209
  z228 := Tryz.sizeOf209
  v228 := Tryz.zeroValue209
  t229 := Tryz.underlying210
  a229 := Tryz.isAgg210
  z229 := Tryz.sizeOf210
  v229 := Tryz.zeroValue210 }

def Tryz.laysNm220_ren : Go.Shelf.Ren := ⟨fun | 20 => 144 | n => n, fun | 22 => 25 | 3 => 3 | 4 => 4 | 0 => 0 | n => n, fun | n => n⟩
theorem Tryz.laysNm220 : Go.Proofs.Lays2.n20 Tryz.prog Tryz.laysNm220_ren := {
  mixed := by kernel_rfl
  f20 := Tryz.func144.trans (congrArg some (by kernel_rfl))
  t0 := Tryz.underlying0
  a0 := Tryz.isAgg0
  z0 := Tryz.sizeOf0
  v0 := Tryz.zeroValue0
  t3 := Tryz.underlying3
  a3 := Tryz.isAgg3
  z3 := Tryz.sizeOf3
  v3 := Tryz.zeroValue3
  t4 := Tryz.underlying4
  a4 := Tryz.isAgg4
  z4 := Tryz.sizeOf4
  v4 := Tryz.zeroValue4
  t22 := Tryz.underlying25
  a22 := Tryz.isAgg25
  z22 := Tryz.sizeOf25
  v22 := Tryz.zeroValue25
  i3 := by kernel_rfl }

open Go.Sort Go.RowKit in
theorem Tryz.sort_any (blk off cap : Nat) (zs : List Int) (w : World) (hH : Holds (Value.int .i64) w blk off zs.toArray) (hblk : blk < w.heap.size) (hsz : zs.length < 4611686018427387904) :
    Calls Tryz.prog 143 #[.slice (some ⟨blk, off, none⟩) zs.length cap] w fun e w' =>
      e = .returned (.tuple #[]) ∧ ∃ n os, w' = grow (putRow (Value.int .i64) (Sort.ahead w n) blk off (zs.mergeSort fun x y => decide (x ≤ y)).toArray) os := Any.slices_Sort_int Tryz.lays189 blk off cap zs w hH hblk hsz

open Go.RowKit Go.Lib Go.Sort in
theorem Tryz.compact_any (blk off cap : Nat) (zs : List Int) (w : World) (hH : Holds (Value.int .i64) w blk off zs.toArray) (hsz : zs.length ≤ 9223372036854775807) (hcap : zs.length ≤ cap) :
    Calls Tryz.prog 144 #[.slice (some ⟨blk, off, none⟩) zs.length cap] w fun e w' => e = .returned (.slice (some ⟨blk, off, none⟩) (Lib.compact zs).length cap) ∧ ∃ q, w' = putRow (Value.int .i64) (Sort.ahead w q) blk off (Lib.compact zs ++ List.replicate (zs.length - (Lib.compact zs).length) 0).toArray :=
  Any.slices_Compact_int Tryz.laysNm220 blk off cap zs w hH hsz hcap
end Go.Proofs

namespace Go.Proofs.YtaapbopcfpihbabGreatDoor
open Go.RowKit

/-- no two of the first n are the same element -/
def Unl (p : Nat) (f : Nat → Int) (n : Nat) : Prop := ∀ i j, i < j → j < n → f i % (p : Int) ≠ f j % (p : Int)

noncomputable def unlB (p : Nat) (zs : List Int) : Bool := @decide (Unl p (zat zs) zs.length) (Classical.propDecidable _)
theorem unlB_yes {p : Nat} {zs : List Int} (h : Unl p (zat zs) zs.length) : unlB p zs = true := by unfold unlB; exact @decide_eq_true _ (Classical.propDecidable _) h
theorem unlB_no {p : Nat} {zs : List Int} (h : ¬ Unl p (zat zs) zs.length) : unlB p zs = false := by unfold unlB; exact @decide_eq_false _ (Classical.propDecidable _) h

end Go.Proofs.YtaapbopcfpihbabGreatDoor
