/- What package poly's slopes and addWithoutRoot answer; plain facts on the polynomial through points. slices.Sort and slices.Compact at lists of numbers, by the library's own contracts: laid for this program. attestref1.Unlike: whether all of a list are unlike, as elements. areUnlike: sorted and compacted as long as before if and only if no two are the same element. -/
import Derived.Test.YtpgnabmkfkcogaaGreatDoorGqAB
import Derived.Test.YtpgnabmkfkcogaaGreatDoorPls
import Derived.Shelf.Sort.Plain
import Derived.Shelf.Slices.CompactI
import Derived.Test.YtpgnabmkfkcogaaGreatDoorProg
import Derived.Deep.QuietTactic
import Derived.BigQuiet
import Derived.Sort.OwnSortedInts
namespace Go.Proofs.YtpgnabmkfkcogaaGreatDoor
open Go.RowKit

theorem Cells.drewN {g o n : Nat} {f : Nat → Int} {W : World} (h : Cells g o n f W) (k : Nat) : Cells g o n f (W.drewN k) := ⟨h.cells, h.soft⟩

theorem ps_more' {p : Nat} {f : Nat → Int} (x : Int) (n m : Nat) (hnm : n ≤ m) (h : ∀ j, n ≤ j → j < m → (p : Int) ∣ f j) : (p : Int) ∣ Pol.ps f x m - Pol.ps f x n := by
  induction m with
  | zero => obtain rfl : n = 0 := by omega
            simp
  | succ m ih =>
    by_cases e : n = m + 1
    · subst e; simp
    · have := Int.dvd_add (ih (by omega) (fun j h1 h2 => h j h1 (by omega))) (Int.dvd_mul_of_dvd_left (c := x ^ m) (h m (by omega) (by omega)))
      simp only [Pol.ps]
      rwa [show Pol.ps f x m - Pol.ps f x n + f m * x ^ m = Pol.ps f x m + f m * x ^ m - Pol.ps f x n from by omega] at this

theorem evz_mk {p : Nat} (h3 : 3 ≤ p) (F : Nat → Int) (N : Nat) (x : Int) : evz p (Pol.mk p F N) x = Pol.ps F x N % (p : Int) := by
  unfold evz
  rw [Pol.mk_length]
  refine (Pol.emod_eq_iff (by omega)).2 ?_
  have h1 : (p : Int) ∣ Pol.ps (zat (Pol.mk p F N)) x (Pol.tp p F N) - Pol.ps F x (Pol.tp p F N) := Pol.ps_congr x _ (fun j hj => by
    rw [show zat (Pol.mk p F N) j = (Pol.mk p F N).getD j 0 from rfl, Pol.mk_at p F N j hj]
    exact Pol.emod_dvd p _)
  have h2 := ps_more' (p := p) (f := F) x (Pol.tp p F N) N (Pol.tp_le p F N) (fun j h1 h2 => Pol.emod_zero_iff.1 (Pol.tp_behind p F N j h1 h2))
  have := Int.dvd_sub h1 h2
  rwa [show ∀ a b c : Int, a - b - (c - b) = a - c from fun a b c => by omega] at this

/-- the list of the product without x - xs[k], of the first i -/
def vskl (p : Nat) (xs : List Int) (k i : Nat) : List Int := Pol.mk p (Pol.vsk (zat xs) k i) (i + 1)

theorem slope_eq {p : Nat} (h3 : 3 ≤ p) (xs : List Int) (k : Nat) (hk : k < xs.length) : evz p (pdv p (pvan p xs)) (zat xs k) = evz p (vskl p xs k xs.length) (zat xs k) := by
  have hl := (pvan_list h3 xs).1
  unfold pdv vskl
  rw [evz_mk h3, evz_mk h3, hl, Nat.add_sub_cancel]
  refine (Pol.emod_eq_iff (by omega)).2 ?_
  have h1 : (p : Int) ∣ Pol.ps (Pol.dv (Pol.cf (pvan p xs))) (zat xs k) xs.length - Pol.ps (Pol.dv (Pol.van (zat xs) xs.length)) (zat xs k) xs.length := Pol.ps_congr _ _ (fun j hj => by
    simp only [Pol.dv]
    have e : Pol.cf (pvan p xs) (j + 1) = vn p xs xs.length (j + 1) := (pvan_list h3 xs).2 (j + 1) (by omega)
    rw [e]
    obtain ⟨c, hc⟩ := Pol.emod_dvd p (Pol.van (zat xs) xs.length (j + 1))
    exact ⟨c * ((j : Int) + 1), by rw [show vn p xs xs.length (j + 1) = Pol.van (zat xs) xs.length (j + 1) % (p : Int) from rfl, ← Int.sub_mul, hc]; grind⟩)
  have h2 := Pol.slope (zat xs) k xs.length hk xs.length
  have h0 := Pol.vsk_zero (zat xs) k xs.length xs.length hk (Nat.le_refl _)
  rw [h0] at h2
  have h4 : Pol.ps (Pol.vsk (zat xs) k xs.length) (zat xs k) (xs.length + 1) = Pol.ps (Pol.vsk (zat xs) k xs.length) (zat xs k) xs.length := by
    rw [Pol.ps, h0]; simp
  rw [h4]
  rw [h2] at h1
  rwa [show Pol.ps (Pol.vsk (zat xs) k xs.length) (zat xs k) xs.length - (xs.length : Int) * (0 * zat xs k ^ xs.length) = Pol.ps (Pol.vsk (zat xs) k xs.length) (zat xs k) xs.length from by simp] at h1

/-- what comes of dividing by x - root, from the last place down -/
def sd (p : Nat) (zs : List Int) (root : Int) (n : Nat) : Nat → Int
  | 0 => 0
  | i + 1 => (zat zs (n - i) + sd p zs root n i * root % (p : Int)) % (p : Int)
theorem sd_bounds (p : Nat) (zs : List Int) (root : Int) (n i : Nat) (h3 : 3 ≤ p) : 0 ≤ sd p zs root n i ∧ sd p zs root n i < p := by
  cases i with
  | zero => simp only [sd]; omega
  | succ i => exact emod_bounds _ p h3

theorem sd_vsk {p : Nat} (h3 : 3 ≤ p) (xs : List Int) (k : Nat) (hk : k < xs.length) (i : Nat) (hi : i ≤ xs.length) : sd p (pvan p xs) (zat xs k) xs.length i = Pol.vsk (zat xs) k xs.length (xs.length - i) % (p : Int) := by
  induction i with
  | zero => rw [sd, Nat.sub_zero, Pol.vsk_zero _ _ _ _ hk (Nat.le_refl _)]; simp
  | succ i ih =>
    rw [sd, ih (by omega), (pvan_list h3 xs).2 (xs.length - i) (by omega)]
    have := Pol.vsk_down (zat xs) k xs.length (xs.length - (i + 1)) hk
    rw [show xs.length - (i + 1) + 1 = xs.length - i from by omega] at this
    rw [this]
    unfold vn
    rw [Int.mul_emod (Pol.vsk (zat xs) k xs.length (xs.length - i) % (p : Int)), Int.emod_emod_of_dvd _ (Int.dvd_refl _), ← Int.mul_emod, ← Int.add_emod]

def awf (p : Nat) (f : Nat → Int) (zs : List Int) (root times : Int) (n k : Nat) : Nat → Int := fun j => if n - k ≤ j ∧ j < n then (f j + sd p zs root n (n - j) * times % (p : Int)) % (p : Int) else f j
theorem awf_zero (p : Nat) (f : Nat → Int) (zs : List Int) (root times : Int) (n : Nat) : awf p f zs root times n 0 = f := by
  funext j; unfold awf; rw [if_neg (by omega)]
theorem awf_succ (p : Nat) (f : Nat → Int) (zs : List Int) (root times : Int) (n k : Nat) (hk : k < n) : up (awf p f zs root times n k) (n - 1 - k) ((f (n - 1 - k) + sd p zs root n (k + 1) * times % (p : Int)) % (p : Int)) = awf p f zs root times n (k + 1) := by
  funext j; unfold up awf
  by_cases h : j = n - 1 - k
  · rw [if_pos h, if_pos (by omega), h, show n - (n - 1 - k) = k + 1 from by omega]
  · rw [if_neg h]
    by_cases h2 : n - k ≤ j ∧ j < n
    · rw [if_pos h2, if_pos (by omega)]
    · rw [if_neg h2, if_neg (by omega)]
theorem awf_at (p : Nat) (f : Nat → Int) (zs : List Int) (root times : Int) (n k j : Nat) (h : j < n - k) : awf p f zs root times n k j = f j := by unfold awf; rw [if_neg (by omega)]

set_option maxHeartbeats 4000000 in
theorem awr_any (p b g n c1 c2 : Nat) (a : Option Addr) (f : Nat → Int) (zs : List Int) (root times : Int) (w : World) (h3 : 3 ≤ p) (hm : p ≤ 2147483647) (hp : w.cell? ⟨b, 0, none⟩ = some (.int .i64 p)) (hbg : b ≠ g)
    (hn : n + 1 = zs.length) (hnl : n ≤ 281474976710655) (hf : ∀ j, j < n → 0 ≤ f j ∧ f j < p) (hz : Fits zs) (hx1 : -9223372036854775808 ≤ root) (hx2 : root ≤ 9223372036854775807) (ht1 : -9223372036854775808 ≤ times) (ht2 : times ≤ 9223372036854775807)
    (hC : Cells g 0 n f w) (hr : RowP (· ≠ g) w a zs) :
    Calls Tryz.prog 257 #[.pointer (some ⟨b, 0, none⟩), .slice (some ⟨g, 0, none⟩) n c1, .slice a zs.length c2, .int .i64 root, .int .i64 times] w fun e w' =>
      e = .returned (.tuple #[]) ∧ Cells g 0 n (awf p f zs root times n n) w' ∧ Only g w w' := by
  have HF := hid hf
  have HZ := hid hz
  have HR := hid hr
  have HC0 := hid hC
  have HN := hid hn
  clear hf hz hr hC hn
  go_enter Tryz.func257, Tryz.ntmps257
  go_wp2_with fail
  go_loopw [10, 15] (fun pv iv wr => ∃ (k : Nat), k ≤ n ∧ iv = .int .i64 k ∧ pv = .int .i64 (sd p zs root n k) ∧ Hid (Cells g 0 n (awf p f zs root times n k) wr) ∧ Hid (Only g w wr))
    (fun _ iv _ => n - (intOf iv).toNat)
  case atStart => exact ⟨0, Nat.zero_le _, rfl, rfl, by rw [awf_zero]; exact HC0, Only.refl _ _⟩
  case round =>
    obtain ⟨k, hk, rfl, rfl, hout, honly⟩ := hrel
    by_cases hlt : k < n
    · have hlt2 : (k : Int) < (n : Int) := by omega
      have HS := hid (awf_succ p f zs root times n k hlt)
      have HSD : Hid ((zat zs (n - k) + sd p zs root n k * root % (p : Int)) % (p : Int) = sd p zs root n (k + 1)) := rfl
      obtain ⟨i, hi⟩ : ∃ i, i = n - 1 - k := ⟨_, rfl⟩
      rw [← hi] at HS
      rw [show n - k = i + 1 from by omega] at HSD
      have e1 : (n : Int) - 1 - (k : Int) = (i : Int) := by omega
      have e2 : (i : Int) < (n : Int) := by omega
      have e3 : (i : Int) + 1 < (zs.length : Int) := by have := HN.out; omega
      have e4 : ((i : Int) + 1).toNat = i + 1 := by omega
      have hin : i < n := by omega
      have hi1 : i + 1 < zs.length := by have := HN.out; omega
      obtain ⟨bl, ol, rfl, hbl, hcl⟩ := HR.out (i + 1) hi1
      have hcl2 := (honly.out.cell (p := ⟨bl, ol + (i + 1), none⟩) hbl).trans hcl
      have hok := hout.out.cells i hin
      have hos := hout.out.soft i hin
      rw [Nat.zero_add] at hok hos
      rw [awf_at p f zs root times n k i (by omega)] at hok
      have hpc := (honly.out.cell (p := ⟨b, 0, none⟩) hbg).trans hp
      obtain ⟨hf1, hf2⟩ := HF.out i hin
      obtain ⟨hz1, hz2⟩ := HZ.out (i + 1) hi1
      obtain ⟨hs1, hs2⟩ := sd_bounds p zs root n k h3
      obtain ⟨hs3, hs4⟩ := sd_bounds p zs root n (k + 1) h3
      obtain ⟨hb1, hb2⟩ := emod_bounds (sd p zs root n k * root) p h3
      obtain ⟨hb3, hb4⟩ := emod_bounds (sd p zs root n (k + 1) * times) p h3
      have HM1 : Hid (∀ w1 : World, w1.cell? ⟨b, 0, none⟩ = some (.int .i64 p) → Calls Tryz.prog 121 #[.pointer (some ⟨b, 0, none⟩), .int .i64 (sd p zs root n k), .int .i64 root] w1 fun e w' => e = .returned (.int .i64 (sd p zs root n k * root % p)) ∧ w' = w1) :=
        fun w1 h => mul_any p b _ _ w1 h3 hm h (by omega) (by omega) hx1 hx2
      have HA1 : Hid (∀ w1 : World, w1.cell? ⟨b, 0, none⟩ = some (.int .i64 p) → Calls Tryz.prog 120 #[.pointer (some ⟨b, 0, none⟩), .int .i64 (zat zs (i + 1)), .int .i64 (sd p zs root n k * root % (p : Int))] w1 fun e w' => e = .returned (.int .i64 ((zat zs (i + 1) + sd p zs root n k * root % (p : Int)) % p)) ∧ w' = w1) :=
        fun w1 h => add_any p b _ _ w1 h3 hm h hz1 hz2 (by omega) (by omega)
      rw [HSD.out] at HA1
      have HM2 : Hid (∀ w1 : World, w1.cell? ⟨b, 0, none⟩ = some (.int .i64 p) → Calls Tryz.prog 121 #[.pointer (some ⟨b, 0, none⟩), .int .i64 (sd p zs root n (k + 1)), .int .i64 times] w1 fun e w' => e = .returned (.int .i64 (sd p zs root n (k + 1) * times % p)) ∧ w' = w1) :=
        fun w1 h => mul_any p b _ _ w1 h3 hm h (by omega) (by omega) ht1 ht2
      have HA2 : Hid (∀ w1 : World, w1.cell? ⟨b, 0, none⟩ = some (.int .i64 p) → Calls Tryz.prog 120 #[.pointer (some ⟨b, 0, none⟩), .int .i64 (f i), .int .i64 (sd p zs root n (k + 1) * times % (p : Int))] w1 fun e w' => e = .returned (.int .i64 ((f i + sd p zs root n (k + 1) * times % (p : Int)) % p)) ∧ w' = w1) :=
        fun w1 h => add_any p b _ _ w1 h3 hm h (by omega) (by omega) (by omega) (by omega)
      have HC : Hid (∀ m : Nat, Cells g 0 n (awf p f zs root times n (k + 1)) ((wr.drewN m).setCell ⟨g, i, none⟩ (.int .i64 ((f i + sd p zs root n (k + 1) * times % (p : Int)) % (p : Int))))) := fun m => by
        have := (hout.out.drewN m).set ((f i + sd p zs root n (k + 1) * times % (p : Int)) % (p : Int)) hin
        rw [HS.out, Nat.zero_add] at this
        exact this
      have HB : Hid (∀ m : Nat, Only g w ((wr.drewN m).setCell ⟨g, i, none⟩ (.int .i64 ((f i + sd p zs root n (k + 1) * times % (p : Int)) % (p : Int))))) := fun m => (honly.out.drewN m).setCell rfl _
      clear HS HSD hi hcl
      generalize (f i + sd p zs root n (k + 1) * times % (p : Int)) % (p : Int) = z at *
      generalize sd p zs root n (k + 1) * times % (p : Int) = yt at *
      generalize hsn : sd p zs root n (k + 1) = sn at *
      generalize sd p zs root n k * root % (p : Int) = yx at *
      generalize sd p zs root n k = s0 at *
      generalize f i = fi at *
      generalize zat zs (i + 1) = zi at *
      have HSN := hid hsn
      clear hsn
      go_wp2_with fail
      go_quiet (first
        | (go_at_call 121; exact Calls.quiet_of_same (HM1.out _ hpc))
        | (go_at_call 120; exact Calls.quiet_of_same (HA1.out _ hpc)))
      go_wp2_with fail
      go_region_with (first
        | (go_at_call 121; refine (HM2.out _ ?_).mono ?_; exact hpc; rintro e w1 ⟨rfl, rfl⟩)
        | (go_at_call 120; refine (HA2.out _ ?_).mono ?_; exact hpc; rintro e w1 ⟨rfl, rfl⟩))
      all_goals
        go_wp2_with fail
        go_roundw
        case rel => exact ⟨k + 1, by omega, by go_num, by rw [HSN.out], (HC.out nq).drew, (HB.out nq).drew⟩
        case measure => simp [intOf]; omega
    · have hlt2 : ¬ (k : Int) < (n : Int) := by omega
      obtain rfl : k = n := by omega
      go_wp2_with fail
      go_end0
      exact ⟨rfl, hout.out, honly.out⟩

set_option maxHeartbeats 2000000 in
theorem slopes_any (p b c1 c2 : Nat) (a1 a2 : Option Addr) (zs xs : List Int) (w : World) (h3 : 3 ≤ p) (hm : p ≤ 2147483647) (hp : w.cell? ⟨b, 0, none⟩ = some (.int .i64 p))
    (hn : zs.length ≤ 17592186044416) (hn2 : xs.length ≤ 17592186044416) (hf1 : Fits zs) (hf2 : Fits xs) (hr1 : RowB w.heap.size w a1 zs) (hr2 : RowB w.heap.size w a2 xs) :
    Calls Tryz.prog 256 #[.pointer (some ⟨b, 0, none⟩), .slice a1 zs.length c1, .slice a2 xs.length c2] w fun e w' =>
      e = .returned (.slice (some ⟨w.heap.size + 1, 0, none⟩) xs.length xs.length) ∧ Cells (w.heap.size + 1) 0 xs.length (fun j => evz p (pdv p zs) (zat xs j)) w' ∧ Below w.heap.size w w' ∧ w.heap.size + 1 < w'.heap.size := by
  have hb : b < w.heap.size := heap_lt hp
  have HD := hid (derive_any p b c1 (· < w.heap.size) a1 zs w h3 hm hp hn hf1 hr1 (fun _ h => h))
  have HF := hid hf2
  have HR := hid hr2
  have hpl : (pdv p zs).length ≤ 17592186044416 := by have := Pol.tp_le p (Pol.dv (Pol.cf zs)) (zs.length - 1); rw [pdv, Pol.mk_length]; omega
  have HPF : Hid (Fits (pdv p zs)) := can_fits hm (Pol.mk_can (by omega) _ _)
  clear hf1 hf2 hr1 hr2
  generalize pdv p zs = ds at *
  have hmk := fun n h1 h2 w => run_make_row' (P := Tryz.prog) 23 3 (.int .i64 0) 8 Tryz.underlying23 Tryz.infoInt rfl .i64 .i64 n h1 h2 w
  have hmk2 := hmk xs.length (by omega) (by omega)
  clear hmk
  go_enter Tryz.func256, Tryz.ntmps256
  go_wp2_with fail
  refine HD.out.mono ?_
  rintro e w1 ⟨cd, rfl, _, hcd, hb1, hs1⟩
  have HCD := hid hcd
  have HB1 := hid hb1
  clear hcd hb1 HD
  go_wp2_with fail
  go_loopw [19] (fun iv wr => ∃ (k : Nat) (o : Nat → Int), k ≤ xs.length ∧ iv = .int .i64 k ∧ Hid (Cells (w.heap.size + 1) 0 xs.length o wr) ∧ Hid (∀ j, j < k → o j = evz p ds (zat xs j)) ∧ Hid (Cells w.heap.size 0 ds.length (zat ds) wr) ∧ Hid (Below w.heap.size w wr) ∧ w.heap.size + 1 < wr.heap.size)
    (fun iv _ => xs.length - (intOf iv).toNat)
  case atStart =>
    refine ⟨0, fun _ => 0, Nat.zero_le _, rfl, ⟨fun j hj => ?_, fun j hj => ?_⟩, fun j hj => by omega, HCD.out.below ((Below.refl w1.heap.size w1).alloc (Nat.le_refl _) _) (by omega), HB1.out.trans ((Below.refl w.heap.size w1).alloc (by omega) _), by simp; omega⟩
    · rw [← hs1, World.cell?_alloc_at _ _ _ _ (by simp)]
      simp [madeCells, hj, Nat.mod_one]
    · rw [← hs1]; simp
  case round =>
    obtain ⟨k, o, hk, rfl, hout, hoj, hcd, hbel, hsz⟩ := hrel
    by_cases hlt : k < xs.length
    · have hlt2 : (k : Int) < (xs.length : Int) := by omega
      obtain ⟨bl, ol, rfl, hbl, hcl⟩ := HR.out k hlt
      have hcl2 := (hbel.out.cell (p := ⟨bl, ol + k, none⟩) hbl).trans hcl
      have hok := hout.out.cells k hlt
      have hos := hout.out.soft k hlt
      rw [Nat.zero_add] at hok hos
      have hpc := (hbel.out.cell (p := ⟨b, 0, none⟩) hb).trans hp
      obtain ⟨hx1, hx2⟩ := HF.out k hlt
      have HE := hid (eval_any p b cd (· = w.heap.size) (some ⟨w.heap.size, 0, none⟩) ds (zat xs k) wr h3 hm hpc (by omega) HPF.out hx1 hx2 (fun j hj => ⟨w.heap.size, 0, rfl, rfl, hcd.out.cells j hj⟩))
      have HC : Hid (∀ m : Nat, Cells (w.heap.size + 1) 0 xs.length (up o k (evz p ds (zat xs k))) ((wr.drewN m).setCell ⟨w.heap.size + 1, k, none⟩ (.int .i64 (evz p ds (zat xs k))))) := fun m => by
        have := (hout.out.drewN m).set (evz p ds (zat xs k)) hlt
        rw [Nat.zero_add] at this
        exact this
      have HO : Hid (∀ m : Nat, Only (w.heap.size + 1) wr ((wr.drewN m).setCell ⟨w.heap.size + 1, k, none⟩ (.int .i64 (evz p ds (zat xs k))))) := fun m => ((Only.refl (w.heap.size + 1) wr).drewN m).setCell (p := ⟨w.heap.size + 1, k, none⟩) rfl _
      have HJ : Hid (∀ j, j < k + 1 → up o k (evz p ds (zat xs k)) j = evz p ds (zat xs j)) := fun j hj => by
        unfold up
        by_cases hjk : j = k
        · rw [if_pos hjk, hjk]
        · rw [if_neg hjk]; exact hoj.out j (by omega)
      clear hcl
      generalize evz p ds (zat xs k) = ev at *
      generalize zat xs k = x at *
      go_wp2_with fail
      refine HE.out.mono ?_
      rintro e w2 ⟨rfl, m, rfl⟩
      go_wp2_with fail
      go_roundw
      case rel => exact ⟨k + 1, _, by omega, by go_num, HC.out m, HJ, hcd.out.only (HO.out m) (by omega), hbel.out.trans ((HO.out m).below (by omega)), by have := (HO.out m).size; omega⟩
      case measure => simp [intOf]; omega
    · have hlt2 : ¬ (k : Int) < (xs.length : Int) := by omega
      go_wp2_with fail
      go_ret
      exact ⟨rfl, hout.out.congr (fun j hj => hoj.out j (by omega)), hbel.out, hsz⟩

end Go.Proofs.YtpgnabmkfkcogaaGreatDoor

namespace Go.Proofs
open Go.Shelf

def Tryz.lays189_ren : Go.Shelf.Ren := ⟨fun | 189 => 136 | 125 => 201 | 257 => 200 | 128 => 245 | 129 => 246 | 294 => 236 | 295 => 237 | 296 => 238 | 297 => 239 | 298 => 240 | 299 => 241 | 216 => 242 | 300 => 243 | 301 => 244 | 328 => 264 | 329 => 265 | 330 => 266 | 331 => 267 | 332 => 268 | 215 => 269 | 343 => 274 | n => n, fun | 28 => 23 | 3 => 3 | 46 => 179 | 0 => 0 | 51 => 220 | 53 => 222 | 4 => 4 | 183 => 290 | 182 => 289 | 131 => 62 | 5 => 5 | 9 => 9 | 218 => 304 | 222 => 308 | 228 => 315 | 229 => 316 | n => n, fun | n => n⟩
theorem Tryz.lays189 : Go.Proofs.Lays.n189 Tryz.prog Tryz.lays189_ren := {
  mixed := by kernel_rfl
  f125 := Tryz.func201.trans (congrArg some (by kernel_rfl))
  f128 := Tryz.func245.trans (congrArg some (by kernel_rfl))
  f129 := Tryz.func246.trans (congrArg some (by kernel_rfl))
  f189 := Tryz.func136.trans (congrArg some (by kernel_rfl))
  f215 := Tryz.func269.trans (congrArg some (by kernel_rfl))
  f216 := Tryz.func242.trans (congrArg some (by kernel_rfl))
  f257 := Tryz.func200.trans (congrArg some (by kernel_rfl))
  f294 := Tryz.func236.trans (congrArg some (by kernel_rfl))
  f295 := Tryz.func237.trans (congrArg some (by kernel_rfl))
  f296 := Tryz.func238.trans (congrArg some (by kernel_rfl))
  f297 := Tryz.func239.trans (congrArg some (by kernel_rfl))
  f298 := Tryz.func240.trans (congrArg some (by kernel_rfl))
  f299 := Tryz.func241.trans (congrArg some (by kernel_rfl))
  f300 := Tryz.func243.trans (congrArg some (by kernel_rfl))
  f301 := Tryz.func244.trans (congrArg some (by kernel_rfl))
  f328 := Tryz.func264.trans (congrArg some (by kernel_rfl))
  f329 := Tryz.func265.trans (congrArg some (by kernel_rfl))
  f330 := Tryz.func266.trans (congrArg some (by kernel_rfl))
  f331 := Tryz.func267.trans (congrArg some (by kernel_rfl))
  f332 := Tryz.func268.trans (congrArg some (by kernel_rfl))
  f343 := Tryz.func274.trans (congrArg some (by kernel_rfl))
  t0 := Tryz.underlying0
  a0 := Tryz.isAgg0
  z0 := Tryz.sizeOf0
  v0 := Tryz.zeroValue0
  t3 := Tryz.underlying3
  a3 := Tryz.isAgg3
  z3 := Tryz.sizeOf3
  v3 := Tryz.zeroValue3
  t4 := Tryz.underlying4
  a4 := Tryz.isAgg4
  z4 := Tryz.sizeOf4
  v4 := Tryz.zeroValue4
  t5 := Tryz.underlying5
  a5 := Tryz.isAgg5
  z5 := Tryz.sizeOf5
  v5 := Tryz.zeroValue5
  t9 := Tryz.underlying9
  a9 := Tryz.isAgg9
  z9 := Tryz.sizeOf9
  v9 := Tryz.zeroValue9
  t28 := Tryz.underlying23
  a28 := Tryz.isAgg23
  z28 := Tryz.sizeOf23
  v28 := Tryz.zeroValue23
  t46 := Tryz.underlying179
  a46 := Tryz.isAgg179
  z46 := Tryz.sizeOf179
  v46 := Tryz.zeroValue179
  t51 := Tryz.underlying220
  a51 := Tryz.isAgg220
  z51 := Tryz.sizeOf220
  v51 := Tryz.zeroValue220
  t53 := Tryz.underlying222
  a53 := Tryz.isAgg222
  z53 := Tryz.sizeOf222
  v53 := Tryz.zeroValue222
  t131 := Tryz.underlying62
  a131 := Tryz.isAgg62
  z131 := Tryz.sizeOf62
  v131 := Tryz.zeroValue62
  t182 := Tryz.underlying289
  a182 := Tryz.isAgg289
  z182 := Tryz.sizeOf289
  v182 := Tryz.zeroValue289
  t183 := Tryz.underlying290
  a183 := Tryz.isAgg290
  z183 := Tryz.sizeOf290
  v183 := Tryz.zeroValue290
  t218 := Tryz.underlying304
  a218 := Tryz.isAgg304
  z218 := Tryz.sizeOf304
  v218 := Tryz.zeroValue304
  t222 := Tryz.underlying308
  a222 := Tryz.isAgg308
  z222 := Tryz.sizeOf308
  v222 := Tryz.zeroValue308
  t228 := Tryz.underlying315
  a228 := Tryz.isAgg315
  z228 := Tryz.sizeOf315
  v228 := Tryz.zeroValue315
  t229 := Tryz.underlying316
  a229 := Tryz.isAgg316
  z229 := Tryz.sizeOf316
  v229 := Tryz.zeroValue316 }

def Tryz.laysNm220_ren : Go.Shelf.Ren := ⟨fun | 20 => 137 | n => n, fun | 22 => 23 | 3 => 3 | 4 => 4 | 0 => 0 | n => n, fun | n => n⟩
theorem Tryz.laysNm220 : Go.Proofs.Lays2.n20 Tryz.prog Tryz.laysNm220_ren := {
  mixed := by kernel_rfl
  f20 := Tryz.func137.trans (congrArg some (by kernel_rfl))
  t0 := Tryz.underlying0
  a0 := Tryz.isAgg0
  z0 := Tryz.sizeOf0
  v0 := Tryz.zeroValue0
  t3 := Tryz.underlying3
  a3 := Tryz.isAgg3
  z3 := Tryz.sizeOf3
  v3 := Tryz.zeroValue3
  t4 := Tryz.underlying4
  a4 := Tryz.isAgg4
  z4 := Tryz.sizeOf4
  v4 := Tryz.zeroValue4
  t22 := Tryz.underlying23
  a22 := Tryz.isAgg23
  z22 := Tryz.sizeOf23
  v22 := Tryz.zeroValue23
  i3 := by kernel_rfl }

open Go.Sort Go.RowKit in
theorem Tryz.sort_any (blk off cap : Nat) (zs : List Int) (w : World) (hH : Holds (Value.int .i64) w blk off zs.toArray) (hblk : blk < w.heap.size) (hsz : zs.length < 4611686018427387904) :
    Calls Tryz.prog 136 #[.slice (some ⟨blk, off, none⟩) zs.length cap] w fun e w' =>
      e = .returned (.tuple #[]) ∧ ∃ n os, w' = grow (putRow (Value.int .i64) (Sort.ahead w n) blk off (zs.mergeSort fun x y => decide (x ≤ y)).toArray) os := Any.slices_Sort_int Tryz.lays189 blk off cap zs w hH hblk hsz

open Go.RowKit Go.Lib Go.Sort in
theorem Tryz.compact_any (blk off cap : Nat) (zs : List Int) (w : World) (hH : Holds (Value.int .i64) w blk off zs.toArray) (hsz : zs.length ≤ 9223372036854775807) (hcap : zs.length ≤ cap) :
    Calls Tryz.prog 137 #[.slice (some ⟨blk, off, none⟩) zs.length cap] w fun e w' => e = .returned (.slice (some ⟨blk, off, none⟩) (Lib.compact zs).length cap) ∧ ∃ q, w' = putRow (Value.int .i64) (Sort.ahead w q) blk off (Lib.compact zs ++ List.replicate (zs.length - (Lib.compact zs).length) 0).toArray :=
  Any.slices_Compact_int Tryz.laysNm220 blk off cap zs w hH hsz hcap
end Go.Proofs

namespace Go.Proofs.YtpgnabmkfkcogaaGreatDoor
open Go.RowKit

/-- no two of the first n are the same element -/
def Unl (p : Nat) (f : Nat → Int) (n : Nat) : Prop := ∀ i j, i < j → j < n → f i % (p : Int) ≠ f j % (p : Int)

noncomputable def unlB (p : Nat) (zs : List Int) : Bool := @decide (Unl p (zat zs) zs.length) (Classical.propDecidable _)
theorem unlB_yes {p : Nat} {zs : List Int} (h : Unl p (zat zs) zs.length) : unlB p zs = true := by unfold unlB; exact @decide_eq_true _ (Classical.propDecidable _) h
theorem unlB_no {p : Nat} {zs : List Int} (h : ¬ Unl p (zat zs) zs.length) : unlB p zs = false := by unfold unlB; exact @decide_eq_false _ (Classical.propDecidable _) h

end Go.Proofs.YtpgnabmkfkcogaaGreatDoor

namespace Go.Proofs.YtpgnabmkfkcogaaGreatDoor
open Go.RowKit Go.Sort

theorem filter_len {p : Nat → Bool} (n : Nat) : ((List.range n).filter p).length = n ↔ ∀ j, j < n → p j = true := by
  induction n with
  | zero => simp
  | succ n ih =>
    rw [List.range_succ, List.filter_append, List.length_append]
    have hle : ((List.range n).filter p).length ≤ n := by
      have := List.length_filter_le p (List.range n); simpa using this
    constructor
    · intro h j hj
      have h2 : ((List.filter p [n]).length) ≤ 1 := by have := List.length_filter_le p [n]; simpa using this
      have h3 : ((List.range n).filter p).length = n := by omega
      by_cases e : j = n
      · subst e
        rcases hp : p j with _ | _
        · simp [hp] at h; omega
        · rfl
      · exact ih.1 h3 j (by omega)
    · intro h
      rw [ih.2 (fun j hj => h j (by omega))]
      simp [h n (by omega)]

theorem compact_len (l : List Int) : (Lib.compact l).length = l.length ↔ ∀ j, 0 < j → j < l.length → zat l j ≠ zat l (j - 1) := by
  unfold Lib.compact Lib.compactUpTo
  rw [List.length_map, filter_len]
  have hg : ∀ j, j < l.length → l.toArray[j]! = zat l j := fun j hj => by simp [zat, hj]
  constructor
  · intro h j h0 hj
    have := h j hj
    simp only [Lib.keeps, decide_eq_true_eq] at this
    rw [hg j hj, hg (j - 1) (by omega)] at this
    exact this.resolve_left (by omega)
  · intro h j hj
    simp only [Lib.keeps, decide_eq_true_eq]
    by_cases h0 : j = 0
    · exact Or.inl h0
    · right; rw [hg j hj, hg (j - 1) (by omega)]; exact h j (by omega) hj

theorem zat_get (l : List Int) (j : Nat) (h : j < l.length) : zat l j = l[j] := by simp [zat, h]

theorem sorted_adj (l : List Int) (hs : l.Pairwise (· ≤ ·)) : (∀ j, 0 < j → j < l.length → zat l j ≠ zat l (j - 1)) ↔ l.Nodup := by
  rw [List.pairwise_iff_getElem] at hs
  constructor
  · intro h
    rw [List.Nodup, List.pairwise_iff_getElem]
    intro i j hi hj hij he
    have h1 := h (i + 1) (by omega) (by omega)
    rw [zat_get l (i + 1) (by omega), Nat.add_sub_cancel, zat_get l i hi] at h1
    have a1 := hs i (i + 1) hi (by omega) (by omega)
    by_cases e : i + 1 = j
    · subst e; exact h1 he.symm
    · have a2 := hs (i + 1) j (by omega) hj (by omega)
      omega
  · intro h j h0 hj he
    rw [List.Nodup, List.pairwise_iff_getElem] at h
    rw [zat_get l j hj, zat_get l (j - 1) (by omega)] at he
    exact h (j - 1) j (by omega) hj (by omega) he.symm

theorem sort_len (l : List Int) : (l.mergeSort fun x y => decide (x ≤ y)).length = l.length := by simp

theorem unlike_iff (l : List Int) : (Lib.compact (l.mergeSort fun x y => decide (x ≤ y))).length = l.length ↔ l.Nodup := by
  have hs : (l.mergeSort fun x y => decide (x ≤ y)).Pairwise (· ≤ ·) := by
    have := List.pairwise_mergeSort (le := fun x y : Int => decide (x ≤ y)) (fun a b c h1 h2 => by simp at *; omega) (fun a b => by simp; omega) l
    exact this.imp (fun h => by simpa using h)
  have hp : (l.mergeSort fun x y => decide (x ≤ y)).Perm l := List.mergeSort_perm l _
  rw [← hp.nodup_iff, ← sorted_adj _ hs, ← compact_len, sort_len]

theorem unl_ls (p : Nat) (xs : List Int) : Unl p (zat xs) xs.length ↔ (ls (fun j => zat xs j % (p : Int)) xs.length).Nodup := by
  rw [List.Nodup, List.pairwise_iff_getElem]
  have hg : ∀ j (h : j < (ls (fun j => zat xs j % (p : Int)) xs.length).length), (ls (fun j => zat xs j % (p : Int)) xs.length)[j] = zat xs j % (p : Int) := fun j h => by
    rw [← zat_get _ j h, ls_at _ _ _ (by rw [ls_len] at h; exact h)]
  constructor
  · intro h i j hi hj hij
    rw [hg i hi, hg j hj]
    rw [ls_len] at hj
    exact h i j hij hj
  · intro h i j hij hj
    have := h i j (by rw [ls_len]; omega) (by rw [ls_len]; exact hj) hij
    rw [hg, hg] at this
    exact this

theorem unlB_len (p : Nat) (xs : List Int) : (((Lib.compact ((ls (fun j => zat xs j % (p : Int)) xs.length).mergeSort fun x y => decide (x ≤ y))).length : Int) == (xs.length : Int)) = unlB p xs := by
  have h := unlike_iff (ls (fun j => zat xs j % (p : Int)) xs.length)
  rw [ls_len, ← unl_ls] at h
  by_cases hu : Unl p (zat xs) xs.length
  · rw [unlB_yes hu, beq_iff_eq, h.2 hu]
  · rw [unlB_no hu, beq_eq_false_iff_ne]
    intro e
    exact hu (h.1 (by omega))

theorem cells_holds {g : Nat} {zs : List Int} {w : World} (h : Cells g 0 zs.length (zat zs) w) : Holds (Value.int .i64) w g 0 zs.toArray := fun j hj => by
  have hj' : j < zs.length := by simpa using hj
  have := h.cells j hj'
  refine ⟨?_, h.soft j hj'⟩
  rw [this]; simp [zat, hj']

theorem below_put {w : World} {n0 g n : Nat} (d : Array Int) (hg : n0 ≤ g) : Below n0 w (putRow (Value.int .i64) (Sort.ahead w n) g 0 d) := by
  refine ⟨rfl, rfl, rfl, by simp [Sort.ahead], fun k hk => ?_⟩
  simp only [putRow, mapBlock, Sort.ahead, Array.getElem?_modify]
  rw [if_neg (by omega)]

theorem below_grow {w w' : World} {n0 : Nat} (h : Below n0 w w') (hn : n0 ≤ w'.heap.size) (os : Array Obj) : Below n0 w (grow w' os) :=
  h.trans ⟨rfl, rfl, rfl, by simp [grow], fun k hk => by simp only [grow]; rw [Array.getElem?_append_left (by omega)]⟩

set_option maxHeartbeats 2000000 in
theorem areunlike_any (p b cap : Nat) (a : Option Addr) (xs : List Int) (w : World) (h3 : 3 ≤ p) (hm : p ≤ 2147483647) (hp : w.cell? ⟨b, 0, none⟩ = some (.int .i64 p))
    (hn : xs.length ≤ 17592186044416) (hfit : Fits xs) (hrow : RowB w.heap.size w a xs) :
    Calls Tryz.prog 253 #[.pointer (some ⟨b, 0, none⟩), .slice a xs.length cap] w fun e w' => e = .returned (.bool (unlB p xs)) ∧ Below w.heap.size w w' := by
  have hb : b < w.heap.size := heap_lt hp
  have HF := hid hfit
  have HR := hid hrow
  have HU := hid (unlB_len p xs)
  clear hfit hrow
  have hmk := fun n h1 h2 w => run_make_row' (P := Tryz.prog) 23 3 (.int .i64 0) 8 Tryz.underlying23 Tryz.infoInt rfl .i64 .i64 n h1 h2 w
  have hmk2 := hmk xs.length (by omega) (by omega)
  clear hmk
  go_enter Tryz.func253, Tryz.ntmps253
  go_wp2_with fail
  go_loopw [13] (fun iv wr => ∃ (k : Nat) (o : Nat → Int), k ≤ xs.length ∧ iv = .int .i64 k ∧ Hid (Cells w.heap.size 0 xs.length o wr) ∧ Hid (∀ j, j < k → o j = zat xs j % (p : Int)) ∧ Hid (Below w.heap.size w wr) ∧ wr.heap.size = w.heap.size + 1)
    (fun iv _ => xs.length - (intOf iv).toNat)
  case atStart =>
    refine ⟨0, fun _ => 0, Nat.zero_le _, rfl, ⟨fun j hj => ?_, fun j hj => ?_⟩, fun j hj => by omega, ?_, by simp⟩
    · rw [World.cell?_alloc_at _ _ _ _ (by simp)]
      simp [madeCells, hj, Nat.mod_one]
    · simp
    · exact (Below.refl _ _).alloc (Nat.le_refl _) _
  case round =>
    obtain ⟨k, o, hk, rfl, hout, hoj, hbel, hsz⟩ := hrel
    by_cases hlt : k < xs.length
    · have hlt2 : (k : Int) < (xs.length : Int) := by omega
      obtain ⟨bl, ol, rfl, hbl, hcl⟩ := HR.out k hlt
      have hcl2 := (hbel.out.cell (p := ⟨bl, ol + k, none⟩) hbl).trans hcl
      have hok := hout.out.cells k hlt
      have hos := hout.out.soft k hlt
      rw [Nat.zero_add] at hok hos
      have hpc := (hbel.out.cell (p := ⟨b, 0, none⟩) hb).trans hp
      obtain ⟨hx1, hx2⟩ := HF.out k hlt
      have HC := hid (hout.out.set (zat xs k % (p : Int)) hlt)
      have HB := hid (hbel.out.setCell (p := ⟨w.heap.size, 0 + k, none⟩) (by simp) (.int .i64 (zat xs k % (p : Int))))
      have HJ : Hid (∀ j, j < k + 1 → up o k (zat xs k % (p : Int)) j = zat xs j % (p : Int)) := fun j hj => by
        unfold up
        by_cases hjk : j = k
        · rw [if_pos hjk, hjk]
        · rw [if_neg hjk]; exact hoj.out j (by omega)
      rw [Nat.zero_add] at HC HB
      generalize zat xs k = x at *
      clear hcl
      go_wp2_with fail
      refine (of_any p b x _ h3 hm hpc hx1 hx2).mono ?_
      rintro e w2 ⟨rfl, rfl⟩
      go_wp2_with fail
      go_roundw
      case rel => exact ⟨k + 1, _, by omega, by go_num, HC, HJ, HB, by simp [World.setCell]; exact hsz⟩
      case measure => simp [intOf]; omega
    · have hlt2 : ¬ (k : Int) < (xs.length : Int) := by omega
      have hll := ls_len (fun j => zat xs j % (p : Int)) xs.length
      have hcs : Cells w.heap.size 0 (ls (fun j => zat xs j % (p : Int)) xs.length).length (zat (ls (fun j => zat xs j % (p : Int)) xs.length)) wr := by
        rw [hll]
        exact hout.out.congr (fun j hj => by rw [ls_at _ _ _ hj]; exact hoj.out j (by omega))
      have hH := cells_holds hcs
      have hsl := sort_len (ls (fun j => zat xs j % (p : Int)) xs.length)
      have HS := hid (Tryz.sort_any w.heap.size 0 xs.length (ls (fun j => zat xs j % (p : Int)) xs.length) wr hH (by omega) (by omega))
      rw [hll] at HS
      have HH := hid hH
      have HC : Hid (∀ (n : Nat) (os : Array Obj), Calls Tryz.prog 137 #[.slice (some ⟨w.heap.size, 0, none⟩) xs.length xs.length] (grow (putRow (Value.int .i64) (Sort.ahead wr n) w.heap.size 0 ((ls (fun j => zat xs j % (p : Int)) xs.length).mergeSort fun x y => decide (x ≤ y)).toArray) os) fun e w' =>
          e = .returned (.slice (some ⟨w.heap.size, 0, none⟩) (Lib.compact ((ls (fun j => zat xs j % (p : Int)) xs.length).mergeSort fun x y => decide (x ≤ y))).length xs.length) ∧ Below w.heap.size w w') := fun n os => by
        have hh := holds_grow (Value.int .i64) _ os w.heap.size 0 _ (by simp [Sort.ahead]; omega) (holds_putRow (Value.int .i64) (Sort.ahead wr n) w.heap.size 0 _ ((ls (fun j => zat xs j % (p : Int)) xs.length).mergeSort fun x y => decide (x ≤ y)).toArray (holds_ahead _ _ n _ _ _ HH.out) (by simp))
        have hcc := Tryz.compact_any w.heap.size 0 xs.length _ _ hh (by omega) (by omega)
        rw [hsl, hll] at hcc
        refine hcc.mono ?_
        rintro e w' ⟨rfl, q, rfl⟩
        exact ⟨rfl, (hbel.out.trans (below_grow (below_put _ (Nat.le_refl _)) (by simp [Sort.ahead]; omega) os)).trans (below_put _ (Nat.le_refl _))⟩
      generalize (Lib.compact ((ls (fun j => zat xs j % (p : Int)) xs.length).mergeSort fun x y => decide (x ≤ y))).length = cl at *
      generalize (ls (fun j => zat xs j % (p : Int)) xs.length).mergeSort (fun x y => decide (x ≤ y)) = ms at *
      clear hcs hH hsl hll HH
      go_wp2_with fail
      refine HS.out.mono ?_
      rintro e w2 ⟨rfl, n, os, rfl⟩
      have HC2 := hid (HC.out n os)
      generalize grow (putRow (Value.int .i64) (Sort.ahead wr n) w.heap.size 0 ms.toArray) os = w3 at *
      go_wp2_with fail
      refine HC2.out.mono ?_
      rintro e w4 ⟨rfl, hb4⟩
      have HB4 := hid hb4
      clear hb4
      go_wp2_with fail
      go_ret
      exact ⟨ret_bool HU.out, HB4.out⟩

end Go.Proofs.YtpgnabmkfkcogaaGreatDoor
